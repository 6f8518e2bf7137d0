/- The walk of ClockAgrees. -/
import Derived.Test.YtjhcdkllneeijaaAgs
import Derived.Test.YtjhcdkllneeijaaPick
namespace Go.Proofs.Ytjhcdkllneeijaa
open Go.RowKit

theorem flatC_get : ∀ (l : List (Int × Int)) (i : Nat) (r : Int × Int), l[i]? = some r → (flatC l)[i * 2]? = some (.int .i64 r.1) ∧ (flatC l)[i * 2 + 1]? = some (.int .i64 r.2)
  | [], i, r, h => by simp at h
  | x :: l, 0, r, h => by
    cases h
    exact ⟨rfl, rfl⟩
  | x :: l, i + 1, r, h => by
    have := flatC_get l i r (by simpa using h)
    have e : flatC (x :: l) = .int .i64 x.1 :: .int .i64 x.2 :: flatC l := rfl
    rw [e, show (i + 1) * 2 = i * 2 + 1 + 1 by omega]
    exact this
theorem own_sps {w : World} {B n cap : Nat} {e : TypeId} {A : Option Addr} {l : List (Int × Int)} (hn : n = l.length) (h : w.ownsRow B e 2 (.slice A n cap) n (flatC l)) : Sps w w.heap.size A l := by
  rcases h.2 with ⟨_, h1⟩ | ⟨g, c, cur, hv, hB, hg, _, _, hs, ht⟩
  · exact .inl (List.eq_nil_of_length_eq_zero (by omega))
  · have hlt : g < w.heap.size := by
      rcases Nat.lt_or_ge g w.heap.size with k | k
      · exact k
      · rw [Array.getElem?_eq_none k] at hg; cases hg
    cases hv
    refine .inr ⟨g, 0, rfl, hlt, fun i r hr => ?_⟩
    obtain ⟨c0, c1⟩ := flatC_get l i r hr
    have hi : i < l.length := (List.getElem?_eq_some_iff.1 hr).1
    have hc : ∀ (j : Nat) (v : Value), j < n * 2 → (flatC l)[j]? = some v → w.cell? ⟨g, j, none⟩ = some v := by
      intro j v hj hv
      rw [← ht, List.getElem?_take_of_lt hj, Array.getElem?_toList] at hv
      rw [cell_of_row w g j cur e (0, 0) hg]; exact hv
    rw [Nat.zero_add]
    exact ⟨hc _ _ (by omega) c0, hc _ _ (by omega) c1⟩
theorem Sps.take {w : World} {B : Nat} {A : Option Addr} {l : List (Int × Int)} (h : Sps w B A l) (k : Nat) : Sps w B A (l.take k) := by
  rcases h with rfl | ⟨b, o, hA, hB, hc⟩
  · exact .inl (by simp)
  · exact .inr ⟨b, o, hA, hB, fun i r hr => by
      rw [List.getElem?_take] at hr
      split at hr
      · exact hc i r hr
      · cases hr⟩
theorem spell_info : (Try.prog.info? 32).map (fun i => (i.zero, i.size, i.bytes)) = some (some (.agg #[.int .i64 0, .int .i64 0]), 2, 16) := by kernel_rfl

set_option maxRecDepth 100000 in
set_option maxHeartbeats 16000000 in
theorem agrees_walk (l0 : List (Int × Int)) (A : Option Addr) (c : Nat) (s : Int) (hr : ∀ r ∈ l0, In64 r.1 ∧ In64 r.2) (hcap : l0.length ≤ c ∧ c ≤ 9223372036854775807) (b0 : In64 s) (w : World) (h : Sps w w.heap.size A l0)
    (hsane : ∀ W : World, Calls Try.prog 10 #[] W fun e w' => e = .returned (.bool true) ∧ Below W.heap.size W w') :
    Calls Try.prog 8 #[.slice A l0.length c, .int .i64 s] w fun e w' => e = .returned (.bool true) ∧ Below w.heap.size w w' := by
  obtain ⟨i0, hi0, hz0, hz1, hz2⟩ := info_parts spell_info
  obtain ⟨L, hL⟩ : ∃ L, L = l0.length := ⟨_, rfl⟩
  obtain ⟨M, hM⟩ : ∃ M, M = min L 12 := ⟨_, rfl⟩
  obtain ⟨l, hl⟩ : ∃ l, l = l0.take M := ⟨_, rfl⟩
  have hlM : M = l.length := by rw [hl, List.length_take]; omega
  have hs : Sps w w.heap.size A l := by rw [hl]; exact h.take M
  have hrl : ∀ r ∈ l, In64 r.1 ∧ In64 r.2 := fun r hm => hr r (by rw [hl] at hm; exact List.mem_of_mem_take hm)
  have eM : ∀ (ts : Array TypeId) (t : TypeId) (W : World), (Builtin.min_ ts t #[.int .i64 (L : Int), .int .i64 12]).run Try.prog W = .ok (.int .i64 (M : Int)) W := by
    intro ts t W
    rw [run_min_int2, show (if (12 : Int) < (L : Int) then (12 : Int) else (L : Int)) = (M : Int) by rw [hM]; split <;> omega]
  have p1 := fun W => pick_any s 42 b0.1 b0.2 (by omega) (by omega) W
  have r1 := pk_range (c := s) (n := 42) (by omega)
  generalize pk s 42 = q at *
  have hag := fun (W : World) (hb : Below w.heap.size w W) => agrees_any l (by omega) A c s W (hs.deep hb)
  rw [← hlM] at hag
  have m1 : M ≤ L := by omega
  have m2 : M ≤ 12 := by omega
  obtain ⟨c1, c2⟩ := hcap
  rw [← hL] at c1 ⊢
  have HS := Lib.hid hs; have HR := Lib.hid hrl; have P1 := Lib.hid p1; have HAG := Lib.hid hag; have HSA := Lib.hid hsane; have HL := Lib.hid hlM
  obtain ⟨r1a, r1b⟩ := r1
  clear hs hrl p1 hag hsane hlM hl hM hL h hr b0
  go_enter Try.func8, Try.ntmps8
  go_wp2_with (go_at_call 10; (refine (HSA.out _).mono ?_); rintro e w1 ⟨rfl, hb1⟩; have B1 := Lib.hid hb1; clear hb1)
  have hw1 := B1.out.size
  go_loopg [6, 7] M (fun kx s6 s7 wr => ∃ (k cap : Nat) (A' : Option Addr) (nl : List (Int × Int)), s6 = .slice A' k cap ∧ s7 = .int .i64 (k : Int) ∧ k + kx = M ∧ k = nl.length ∧ Below w.heap.size w wr ∧ w1.heap.size ≤ wr.heap.size ∧ wr.ownsRow w1.heap.size 32 2 (.slice A' k cap) k (flatC nl))
  case atStart => exact ⟨0, 0, none, [], rfl, rfl, by omega, rfl, B1.out, Nat.le_refl _, ⟨rfl, .inl ⟨rfl, rfl⟩⟩⟩
  case round =>
    obtain ⟨k, cap, A', nl, rfl, rfl, hk, hkl, b5, s5, o5⟩ := hrel
    by_cases hlt : k < M
    · obtain ⟨⟨x, y⟩, hv⟩ : ∃ y, l[k]? = some y := ⟨l[k]'(by rw [← HL.out]; exact hlt), by simp⟩
      obtain ⟨bb, o, hA, hbb, e0, e1⟩ := (HS.out.below b5).at hv
      subst hA
      obtain ⟨i1, i2⟩ := HR.out _ (List.mem_of_getElem? hv)
      dsimp only at e0 e1 i1 i2
      have p3 := fun W => pick_any x 40 i1.1 i1.2 (by omega) (by omega) W
      have p4 := fun W => pick_any y 40 i2.1 i2.2 (by omega) (by omega) W
      generalize pk x 40 = px at *
      generalize pk y 40 = py at *
      have B5 := Lib.hid b5; have O5 := Lib.hid o5; have HV := Lib.hid hv; have P3 := Lib.hid p3; have P4 := Lib.hid p4; have HK := Lib.hid hkl
      have q1 : k + 1 ≤ maxLen := by unfold maxLen; omega
      have q2 : (k + 1) * 16 ≤ 140737488355328 := by omega
      have hk2 : ∀ W, Below w.heap.size w W → (Hid (Below w.heap.size w W) ∧ W.cell? ⟨bb, o + k * 2, none⟩ = some (.int .i64 x) ∧ W.cell? ⟨bb, o + k * 2 + 1, none⟩ = some (.int .i64 y)) := fun W hb => by
        obtain ⟨b', o', hA', _, e0', e1'⟩ := (HS.out.below hb).at HV.out
        cases hA'
        exact ⟨Lib.hid hb, e0', e1'⟩
      have hg2 : ∀ W, (Hid (Below w.heap.size w W) ∧ W.cell? ⟨bb, o + k * 2, none⟩ = some (.int .i64 x) ∧ W.cell? ⟨bb, o + k * 2 + 1, none⟩ = some (.int .i64 y)) → Below w.heap.size w W := fun W h => h.1.out
      have KK := Lib.hid hk2; have GG := Lib.hid hg2
      have q3 : w1.heap.size ≤ ((wr.alloc (Obj.cells #[Value.int IntKind.i64 px, Value.int IntKind.i64 py] 32)).drew).heap.size := by
        show w1.heap.size ≤ (wr.heap.push _).size
        simp; omega
      have h2' := two_new wr (.int .i64 px) (.int .i64 py) 32
      have H3 := Lib.hid h2'
      clear hk2 hg2 h2' b5 o5 hv p3 p4 i1 i2 hkl
      go_wp2
      go_region_held3 (fun W => Hid (Below w.heap.size w W) ∧ W.cell? ⟨bb, o + k * 2, none⟩ = some (.int .i64 x) ∧ W.cell? ⟨bb, o + k * 2 + 1, none⟩ = some (.int .i64 y))
        (first | assumption | exact KK.out _ B5.out.drew | exact KK.out _ (keep_alloc B5.out _).drew | exact KK.out _ (keep_alloc B5.out.drew _) | exact KK.out _ (keep_alloc (GG.out _ (by assumption)) _) | exact KK.out _ (GG.out _ (by assumption)).drew | exact KK.out _ (((keep_alloc B5.out _).drew).grown hgrow (by have := q3; omega) (fun j ej => by have := (O5.out.lt j ej).1; omega)))
        (first
          | (go_at_call 19; (first | (with_reducible refine (P3.out _).mono ?_) | (with_reducible refine (P4.out _).mono ?_)); rintro e wx ⟨rfl, hwx⟩; have hwx := hwx.symm; subst hwx)
          | (refine step_append_lies _ (by rfl) _ _ _ (by rfl) w1.heap.size 32 i0 _ 2 16 Try.underlying27 hi0 hz0 hz1 hz2 rfl (by decide) (.slice A' k cap) k (flatC nl) (by rfl) ((O5.out.alloc _).drew) ⟨wr.heap.size, 0, none⟩ 1 1 [.int .i64 px, .int .i64 py] (by rfl) (by rfl) H3.out (by simp [Value.oneCell']) (by decide) q1 q2 q3 (wr.heap.size + 1) (by simp) ?_; intro gg cap2 w6 hown6 hgrow hat hlt6))
      all_goals (
        have hno : ∀ j, (Value.slice A' k cap).ownBlock = some j → w1.heap.size ≤ j := fun j ej => (O5.out.lt j ej).1
        have t2 : Below w.heap.size w w6 := ((keep_alloc B5.out _).drew).grown hgrow (by have := q3; omega) (fun j ej => by have := hno j ej; omega)
        have t3 : w1.heap.size ≤ w6.heap.size := Nat.le_trans q3 hgrow.size
        have T2 := Lib.hid t2; have T3 := Lib.hid t3; have TO := Lib.hid hown6
        clear t2 t3 hown6 hgrow hat hlt6 hno
        go_wp2
        go_roundg (M - (k + 1))
        case measure => omega
        case rel => exact ⟨k + 1, cap2, _, nl ++ [(px, py)], rfl, by go_num, by omega, by rw [List.length_append, ← HK.out]; rfl, T2.out, T3.out, by rw [flatC_app]; exact TO.out⟩)
    · obtain rfl : k = M := by omega
      have hsp := own_sps hkl o5
      have hag2 := fun (W : World) (hb : Below wr.heap.size wr W) => agrees_any nl (by omega) A' cap (q - 1) W (hsp.deep hb)
      rw [← hkl] at hag2
      have B5 := Lib.hid b5; have HAG2 := Lib.hid hag2
      clear b5 o5 hsp hag2 hkl
      go_wp2_with (first
        | (go_at_call 29; (first | ((with_reducible refine (HAG.out _ B5.out).mono ?_); rintro e w7 ⟨rfl, hb7⟩; have B7 := Lib.hid hb7; clear hb7) | ((with_reducible refine (HAG2.out _ B7.out).mono ?_); rintro e w8 ⟨rfl, hb8⟩; have B8 := Lib.hid (below_step (below_step B5.out B7.out) hb8); clear hb8)))
        | (go_at_call 19; (with_reducible refine (P1.out _).mono ?_); rintro e wx ⟨rfl, hwx⟩; have hwx := hwx.symm; subst hwx))
      go_ret
      exact ⟨rfl, B8.out⟩
end Go.Proofs.Ytjhcdkllneeijaa
