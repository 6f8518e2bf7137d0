/- The walk of ClockInverse. -/
import Derived.Test.YtjhcdkllneeijaaLaw
namespace Go.Proofs.Ytjhcdkllneeijaa
open Go.RowKit

/-- What Reads says of a true second, and At of a local one. -/
theorem inv_facts {d : Int} (d0 : 0 ≤ d) (d1 : d ≤ 100) {rs : List Rd} (hv : validB d rs = true) {t : Int} (t0 : 0 ≤ t) (t1 : t ≤ 10000000) :
    ∃ f g e : Int, readsS d rs t = (f, g, e) ∧ 0 ≤ f ∧ f ≤ 10000001 ∧ -1 ≤ g ∧ g ≤ 10000001 ∧
      ∀ v : Int, 0 ≤ v → v ≤ 10000000 → ∃ a b z : Int, atS d rs v = (a, b, z) ∧ ((z = 0 ∧ a ≤ t ∧ t ≤ b) ↔ (e = 0 ∧ f ≤ v ∧ v ≤ g)) := by
  have e1 := end_le d0 d1 rs t
  have e2 := fst_le d0 d1 rs t
  have key : ∀ v : Int, 0 ≤ v → v ≤ 10000000 → ∃ a b z : Int, atS d rs v = (a, b, z) ∧ ((z = 0 ∧ a ≤ t ∧ t ≤ b) ↔ ((fstN d rs t : Int) ≤ v ∧ v < (endN d rs t : Int))) := by
    intro v v0 v1
    rw [reads_iff d0 d1 t v v0 v1]
    by_cases h : (win d rs v).1 ≤ (win d rs v).2
    · exact ⟨_, _, _, if_pos ⟨hv, okT_iff.2 ⟨v0, v1⟩, h⟩, by simp⟩
    · exact ⟨0, 0, 50, if_neg (fun k => h k.2.2), by omega⟩
  by_cases h : fstN d rs t < endN d rs t
  · refine ⟨_, _, _, if_pos ⟨hv, okT_iff.2 ⟨t0, t1⟩, h⟩, by omega, by omega, by omega, by omega, fun v v0 v1 => ?_⟩
    obtain ⟨a, b, z, h1, h2⟩ := key v v0 v1
    exact ⟨a, b, z, h1, by rw [h2]; omega⟩
  · refine ⟨0, 0, 50, if_neg (fun k => h k.2.2), by omega, by omega, by omega, by omega, fun v v0 v1 => ?_⟩
    obtain ⟨a, b, z, h1, h2⟩ := key v v0 v1
    exact ⟨a, b, z, h1, by rw [h2]; omega⟩

set_option maxRecDepth 100000 in
set_option maxHeartbeats 16000000 in
theorem inverse_walk (drift start l0 t0 : Int) (rates : List Int) (RA : Option Addr) (rc : Nat) (l : List Rd) (LA : Option Addr) (lc : Nat) (b0 : In64 drift) (b1 : In64 start) (b2 : In64 l0) (b3 : In64 t0) (hrr : ∀ r ∈ rates, In64 r) (hrn : rates.length ≤ 9223372036854775807)
    (hlr : ∀ r ∈ l, In64 r.1 ∧ In64 r.2.1 ∧ In64 r.2.2) (hln : l.length ≤ 9223372036854775807) (w : World) (hr : Nums w w.heap.size RA rates) (hl : Rds w w.heap.size LA l)
    (hsane : ∀ W : World, Calls Try.prog 10 #[] W fun e w' => e = .returned (.bool true) ∧ Below W.heap.size W w') :
    Calls Try.prog 7 #[.int .i64 drift, .int .i64 start, .slice RA rates.length rc, .slice LA l.length lc, .int .i64 l0, .int .i64 t0] w fun e w' => e = .returned (.bool true) ∧ Below w.heap.size w w' := by
  have r1 := pk_range (c := drift) (n := 101) (by omega)
  have p1 := fun W => pick_any t0 5000 b3.1 b3.2 (by omega) (by omega) W
  have r2 := pk_range (c := t0) (n := 5000) (by omega)
  generalize pk t0 5000 = T at *
  have p2 := fun W => pick_any l0 5000 b2.1 b2.2 (by omega) (by omega) W
  have r3 := pk_range (c := l0) (n := 5000) (by omega)
  generalize pk l0 5000 = q at *
  have p3 := fun W => pick_any l0 21 b2.1 b2.2 (by omega) (by omega) W
  have r4 := pk_range (c := l0) (n := 21) (by omega)
  generalize pk l0 21 = q2 at *
  have hm := fun (W : World) (hb : Below w.heap.size w W) => k_made drift start rates RA rc l LA lc b0 b1 hrr hrn hlr hln W (hr.deep hb) ((hl.below hb).more hb.size)
  have hs := fun (W : World) (hb : Below w.heap.size w W) => shown_any drift start T rates RA rc w.heap.size b0 b1 hrr hrn r2.1 (by omega) W (hr.below hb)
  obtain ⟨R, hR⟩ : ∃ R, R = rates.length := ⟨_, rfl⟩
  obtain ⟨L, hL⟩ : ∃ L, L = l.length := ⟨_, rfl⟩
  rw [← hR, ← hL] at hm
  rw [← hR] at hs
  rw [← hR, ← hL]
  obtain ⟨D, hD⟩ : ∃ D, D = pk drift 101 := ⟨_, rfl⟩
  rw [← hD] at hm hs r1
  obtain ⟨S, hS⟩ : ∃ S, S = shN D start rates T := ⟨_, rfl⟩
  rw [← hS] at hs
  have hsr := shN_range (start := start) r1.1 (show D ≤ 100 by omega) rates r2.1 (show T ≤ 5000 by omega)
  rw [← hS] at hsr
  have hfac := fun (rs : List Rd) (h : Mok D start rates rs) => inv_facts r1.1 (show D ≤ 100 by omega) (h.valid r1.1 (show D ≤ 100 by omega)) r2.1 (show T ≤ 10000000 by omega)
  have P1 := Lib.hid p1; have P2 := Lib.hid p2; have P3 := Lib.hid p3; have HM := Lib.hid hm; have HSH := Lib.hid hs; have HS := Lib.hid hsane; have HF := Lib.hid hfac
  obtain ⟨r1a, r1b⟩ := r1; obtain ⟨r2a, r2b⟩ := r2; obtain ⟨r3a, r3b⟩ := r3; obtain ⟨r4a, r4b⟩ := r4; obtain ⟨s1, s2⟩ := hsr
  clear p1 p2 p3 hm hs hsane hfac hR hL hD hS hrr hlr hr hl b0 b1 b2 b3 hrn hln
  go_enter Try.func7, Try.ntmps7
  go_wp2_with (first
    | (go_at_call 10; (refine (HS.out _).mono ?_); rintro e w1 ⟨rfl, hb1⟩; have B1 := Lib.hid hb1; clear hb1)
    | (go_at_call 16; (refine (HM.out _ B1.out).mono ?_); rintro e w2 ⟨A, cap, N, rs, rfl, hN, hN12, hok, hrd, hb2⟩; obtain ⟨f, g, er, fr, f1, f2, f3, f4, fa⟩ := HF.out rs hok; have FR := Lib.hid fr; have FA := Lib.hid fa; have hn : N ≤ 9223372036854775807 := (by omega); have K3 := Lib.hid (Ck.box (d := D) (cap := cap) hrd hN _ rfl); have B3 := Lib.hid (keep_alloc (below_step B1.out hb2) (.cells #[.int .i64 D, .slice A N cap] 24)); obtain ⟨k0, k1, _, _⟩ := K3.out.eqs; clear hb2 hok hrd hN fa fr)
    | (go_at_call 19; (first | (with_reducible refine (P1.out _).mono ?_) | (with_reducible refine (P2.out _).mono ?_) | (with_reducible refine (P3.out _).mono ?_)); rintro e wx ⟨rfl, hwx⟩; have hwx := hwx.symm; subst hwx)
    | (go_at_call 22; (with_reducible refine (k_reads hn FR.out K3.out).mono ?_); rintro e w5 ⟨rfl, hb5⟩; have K5 := Lib.hid (K3.out.step hb5); have B5 := Lib.hid (below_step B3.out hb5); clear hb5)
    | (go_at_call 28; (with_reducible refine (HSH.out _ B5.out).mono ?_); rintro e wx ⟨rfl, hwx⟩; have hwx := hwx.symm; subst hwx))
  obtain ⟨W2, hW2⟩ : ∃ W2, W2 = w5.alloc (Obj.cells #[Value.int IntKind.i64 q, Value.int IntKind.i64 (f - 1), Value.int IntKind.i64 f, Value.int IntKind.i64 g, Value.int IntKind.i64 (g + 1), Value.int IntKind.i64 (S + q2 - 10)] 3) := ⟨_, rfl⟩
  rw [← hW2]
  have hq0 : Row W2 w5.heap.size 3 #[Value.int IntKind.i64 q, Value.int IntKind.i64 (f - 1), Value.int IntKind.i64 f, Value.int IntKind.i64 g, Value.int IntKind.i64 (g + 1), Value.int IntKind.i64 (S + q2 - 10)] := by rw [hW2]; exact Row.made _ _ _
  have K6 := Lib.hid (show Ck W2 w2.heap.size D A N cap rs by rw [hW2]; exact K5.out.alloc _)
  have B6 := Lib.hid (show Below w.heap.size w W2 by rw [hW2]; exact keep_alloc B5.out _)
  have hcell : ∀ (W : World), Row W w5.heap.size 3 #[Value.int IntKind.i64 q, Value.int IntKind.i64 (f - 1), Value.int IntKind.i64 f, Value.int IntKind.i64 g, Value.int IntKind.i64 (g + 1), Value.int IntKind.i64 (S + q2 - 10)] → ∀ k : Nat, k < 6 → ∃ v : Int, W.cell? ⟨w5.heap.size, k, none⟩ = some (.int .i64 v) := by
    intro W q k hk
    match k, hk with
    | 0, _ => exact ⟨_, q.at rfl⟩
    | 1, _ => exact ⟨_, q.at rfl⟩
    | 2, _ => exact ⟨_, q.at rfl⟩
    | 3, _ => exact ⟨_, q.at rfl⟩
    | 4, _ => exact ⟨_, q.at rfl⟩
    | 5, _ => exact ⟨_, q.at rfl⟩
  have HC := Lib.hid hcell; have HQ := Lib.hid hq0
  clear hcell hq0 hW2 k0 k1
  go_loopg [20, 21, 22, 23, 24] 6 (fun kx s20 s21 s22 s23 s24 wr => ∃ (k : Nat), s20 = .int .i64 (k : Int) ∧ k + kx = 6 ∧ Ck wr w2.heap.size D A N cap rs ∧ Below w.heap.size w wr ∧ Row wr w5.heap.size 3 #[Value.int IntKind.i64 q, Value.int IntKind.i64 (f - 1), Value.int IntKind.i64 f, Value.int IntKind.i64 g, Value.int IntKind.i64 (g + 1), Value.int IntKind.i64 (S + q2 - 10)])
  case atStart => exact ⟨0, rfl, rfl, K6.out, B6.out, HQ.out⟩
  case round =>
    clear K3 K5 K6 B1 B3 B5 B6 HQ P1 P2 P3 HM HSH HS
    obtain ⟨k, rfl, hk, hK, hB, hQ⟩ := hrel
    by_cases hlt : k < 6
    · obtain ⟨v, e0⟩ := HC.out wr hQ k hlt
      obtain ⟨c0, c1, _, _⟩ := hK.eqs
      have KK := Lib.hid hK; have BB := Lib.hid hB; have QQ := Lib.hid hQ
      clear hK hB hQ
      by_cases v0 : v < 0
      · go_wp2
        go_roundg (6 - (k + 1))
        case measure => omega
        case rel => exact ⟨k + 1, by go_num, by omega, KK.out, BB.out, QQ.out⟩
      · by_cases v1 : 10000000 < v
        · go_wp2
          go_roundg (6 - (k + 1))
          case measure => omega
          case rel => exact ⟨k + 1, by go_num, by omega, KK.out, BB.out, QQ.out⟩
        · obtain ⟨a, b, z, ha, hiff⟩ := FA.out v (by omega) (by omega)
          have HA := Lib.hid ha
          clear ha
          go_wp2
          go_cut [21, 22, 23] (fun s21 s22 s23 W => s21 = .int .i64 a ∧ s22 = .int .i64 b ∧ s23 = .int .i64 z ∧ Ck W w2.heap.size D A N cap rs ∧ Below w.heap.size w W ∧ Row W w5.heap.size 3 #[Value.int IntKind.i64 q, Value.int IntKind.i64 (f - 1), Value.int IntKind.i64 f, Value.int IntKind.i64 g, Value.int IntKind.i64 (g + 1), Value.int IntKind.i64 (S + q2 - 10)] ∧ W.cell? ⟨w5.heap.size, k, none⟩ = some (.int .i64 v))
          case first =>
            go_region_with (go_at_call 20; ((refine (k_at hn HA.out (KK.out.step (Below.refl _ _).drew)).mono ?_); rintro e w9 ⟨rfl, hb9⟩))
            all_goals go_wp2_with fail
            all_goals go_meet
            all_goals (case rel => exact ⟨rfl, rfl, rfl, (KK.out.step (Below.refl _ _).drew).step hb9, below_step BB.out.drew hb9, Row.below QQ.out.drawn hb9 QQ.out.inside, (hb9.cell (p := ⟨w5.heap.size, k, none⟩) QQ.out.inside).trans e0⟩)
          case rest =>
            obtain ⟨rfl, rfl, rfl, hK, hB, hQ, e1⟩ := hcut
            have K2 := Lib.hid hK; have B2 := Lib.hid hB; have Q2 := Lib.hid hQ; have II := Lib.hid hiff
            clear hK hB hQ hiff c0 c1 e0
            by_cases hz : z = 0
            · subst hz
              by_cases ha : a ≤ T
              · by_cases hb : T ≤ b
                · skip
                  obtain ⟨rfl, hf, hg⟩ := II.out.1 ⟨rfl, ha, hb⟩
                  go_wp2
                  go_roundg (6 - (k + 1))
                  case measure => omega
                  case rel => exact ⟨k + 1, by go_num, by omega, K2.out, B2.out, Q2.out⟩
                · have hno : ¬ ((0 : Int) = 0 ∧ a ≤ T ∧ T ≤ b) := fun h => hb h.2.2
                  by_cases he : er = 0
                  · subst he
                    by_cases hf : f ≤ v
                    · have hg : ¬ v ≤ g := fun h => hno (II.out.2 ⟨rfl, hf, h⟩)
                      clear hno
                      go_wp2
                      go_roundg (6 - (k + 1))
                      case measure => omega
                      case rel => exact ⟨k + 1, by go_num, by omega, K2.out, B2.out, Q2.out⟩
                    · clear hno
                      go_wp2
                      go_roundg (6 - (k + 1))
                      case measure => omega
                      case rel => exact ⟨k + 1, by go_num, by omega, K2.out, B2.out, Q2.out⟩
                  · have he' : decide (er = 0) = false := decide_eq_false he
                    have he2 : (er == 0) = false := by simpa using he
                    clear hno
                    go_wp2
                    go_roundg (6 - (k + 1))
                    case measure => omega
                    case rel => exact ⟨k + 1, by go_num, by omega, K2.out, B2.out, Q2.out⟩
              · have hno : ¬ ((0 : Int) = 0 ∧ a ≤ T ∧ T ≤ b) := fun h => ha h.2.1
                by_cases he : er = 0
                · subst he
                  by_cases hf : f ≤ v
                  · have hg : ¬ v ≤ g := fun h => hno (II.out.2 ⟨rfl, hf, h⟩)
                    clear hno
                    go_wp2
                    go_roundg (6 - (k + 1))
                    case measure => omega
                    case rel => exact ⟨k + 1, by go_num, by omega, K2.out, B2.out, Q2.out⟩
                  · clear hno
                    go_wp2
                    go_roundg (6 - (k + 1))
                    case measure => omega
                    case rel => exact ⟨k + 1, by go_num, by omega, K2.out, B2.out, Q2.out⟩
                · have he' : decide (er = 0) = false := decide_eq_false he
                  have he2 : (er == 0) = false := by simpa using he
                  clear hno
                  go_wp2
                  go_roundg (6 - (k + 1))
                  case measure => omega
                  case rel => exact ⟨k + 1, by go_num, by omega, K2.out, B2.out, Q2.out⟩
            · have hno : ¬ (z = 0 ∧ a ≤ T ∧ T ≤ b) := fun h => hz h.1
              have hz' : decide (z = 0) = false := decide_eq_false hz
              have hz2 : (z == 0) = false := by simpa using hz
              by_cases he : er = 0
              · subst he
                by_cases hf : f ≤ v
                · have hg : ¬ v ≤ g := fun h => hno (II.out.2 ⟨rfl, hf, h⟩)
                  clear hno
                  go_wp2
                  go_roundg (6 - (k + 1))
                  case measure => omega
                  case rel => exact ⟨k + 1, by go_num, by omega, K2.out, B2.out, Q2.out⟩
                · clear hno
                  go_wp2
                  go_roundg (6 - (k + 1))
                  case measure => omega
                  case rel => exact ⟨k + 1, by go_num, by omega, K2.out, B2.out, Q2.out⟩
              · have he' : decide (er = 0) = false := decide_eq_false he
                have he2 : (er == 0) = false := by simpa using he
                clear hno
                go_wp2
                go_roundg (6 - (k + 1))
                case measure => omega
                case rel => exact ⟨k + 1, by go_num, by omega, K2.out, B2.out, Q2.out⟩
    · obtain rfl : k = 6 := by omega
      have BB := Lib.hid hB
      clear hK hB hQ
      go_wp2
      go_ret
      exact ⟨rfl, BB.out⟩
end Go.Proofs.Ytjhcdkllneeijaa
