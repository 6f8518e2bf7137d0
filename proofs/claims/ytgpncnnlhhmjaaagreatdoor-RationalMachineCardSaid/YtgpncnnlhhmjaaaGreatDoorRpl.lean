/- The reference's order: two lists of digits compared. The reference's plus and minus of two lists of digits. The reference's minus. -/
import Derived.Test.YtgpncnnlhhmjaaaGreatDoorRtx
import Derived.Test.YtgpncnnlhhmjaaaGreatDoorRmt
import Derived.Test.YtgpncnnlhhmjaaaGreatDoorRt0
namespace Go.Proofs.YtgpncnnlhhmjaaaGreatDoor
open Go.RowKit

theorem Dl.dig {w : World} {B b o L c n : Nat} (h : Dl w B (some ⟨b, o, none⟩) L c (dg n)) {J : Nat} (hJ : J < L) : w.cell? ⟨b, o + J, none⟩ = some (.int .i64 ((n / 10 ^ J % 10 : Nat) : Int)) := h.at (dg_at (by rw [← h.len]; exact hJ))
theorem dig9 (n J : Nat) : n / 10 ^ J % 10 < 10 := Nat.mod_lt _ (by decide)

set_option maxRecDepth 100000 in
set_option maxHeartbeats 4000000 in
theorem order_any (A1 A2 : Option Addr) (L1 c1 m L2 c2 n : Nat) (m1 : L1 ≤ 2000) (m2 : L2 ≤ 2000) (w : World) (h1 : Dl w w.heap.size A1 L1 c1 (dg m)) (h2 : Dl w w.heap.size A2 L2 c2 (dg n)) :
    Calls Tryz.prog 81 #[.slice A1 L1 c1, .slice A2 L2 c2] w fun e w' => e = .returned (.int .i64 (ordN m n)) ∧ Below w.heap.size w w' := by
  have e1 := h1.len; have e2 := h2.len
  rcases Nat.lt_trichotomy L1 L2 with h | h | h
  · rw [ord_lt (dlen_lt (by omega))]
    have q1 : ((L1 : Int) == (L2 : Int)) = false := by rw [beq_eq_false_iff_ne]; omega
    have q2 : ((L1 : Int) != (L2 : Int)) = true := by rw [bne, q1]; rfl
    have q3 : (L1 : Int) < (L2 : Int) := by omega
    clear e1 e2 h1 h2 h
    go_enter Tryz.func81, Tryz.ntmps81
    go_wp2
    go_ret
    exact ⟨rfl, Below.refl _ _⟩
  · subst h
    obtain ⟨R, hR⟩ : ∃ R, R = ordN m n := ⟨_, rfl⟩
    rw [← hR]
    have cap1 := h1.cap; have top1 := h1.top; have cap2 := h2.cap; have top2 := h2.top
    have H1 := Lib.hid h1; have H2 := Lib.hid h2; have HR := Lib.hid hR; have E1 := Lib.hid e1
    have q1 : ((L1 : Int) == (L1 : Int)) = true := by simp
    have q2 : ((L1 : Int) != (L1 : Int)) = false := by simp
    obtain ⟨Z0, hZ0, z5, z6, z7⟩ := less_facts L1 (by omega)
    have HZ0 := Lib.hid hZ0
    clear e1 e2 h1 h2 hR hZ0
    go_enter Tryz.func81, Tryz.ntmps81
    go_wp2
    clear z5 z6 z7
    go_loopw [5] (fun p wr => ∃ (k : Nat) (z : Int), p = .int .i64 z ∧ z + 1 = (k : Int) ∧ k ≤ L1 ∧ Hid (m / 10 ^ k = n / 10 ^ k) ∧ Below w.heap.size w wr) (fun p _ => (intOf p + 1).toNat)
    case atStart =>
      refine ⟨L1, Z0, rfl, by rw [HZ0.out]; omega, Nat.le_refl _, Lib.hid ?_, Below.refl _ _⟩
      have a1 := dg_in m L1; have a2 := dg_in n L1
      have b1 := H1.out.len; have b2 := H2.out.len
      generalize m / 10 ^ L1 = p at *
      generalize n / 10 ^ L1 = q at *
      omega
    case round =>
      obtain ⟨k, z, rfl, hz, hk, HV, hbr⟩ := hrel
      by_cases hk0 : k = 0
      · subst hk0
        obtain rfl : z = -1 := by omega
        have hv := HV.out
        rw [Nat.pow_zero, Nat.div_one, Nat.div_one] at hv
        have hr := HR.out
        rw [ord_eq hv] at hr
        subst hr
        have HBR := Lib.hid hbr
        clear hbr hv
        go_wp2
        go_ret
        exact ⟨rfl, HBR.out⟩
      · obtain ⟨J, rfl⟩ : ∃ J, k = J + 1 := ⟨k - 1, by omega⟩
        obtain rfl : z = (J : Int) := by omega
        obtain ⟨b1, o1, rfl, hb1⟩ := H1.out.form (by omega)
        obtain ⟨b2, o2, rfl, hb2⟩ := H2.out.form (by omega)
        have k1 := (H1.out.below hbr).dig (J := J) (by omega)
        have k2 := (H2.out.below hbr).dig (J := J) (by omega)
        have t1 := fun h => top_lt (m := m) (n := n) (J := J) HV.out h
        have t2 := fun h => top_lt (m := n) (n := m) (J := J) HV.out.symm h
        have t3 := fun h => top_eq (m := m) (n := n) (J := J) HV.out h
        generalize m / 10 ^ J % 10 = x at k1 t1 t2 t3
        generalize n / 10 ^ J % 10 = y at k2 t1 t2 t3
        have j0 : (0 : Int) ≤ (J : Int) := by omega
        have j1 : (J : Int) < (L1 : Int) := by omega
        obtain ⟨Z, hZ, a5, a6, a7⟩ := less_facts J (by omega)
        have HZ := Lib.hid hZ; have HBR := Lib.hid hbr
        rcases Nat.lt_trichotomy x y with h | h | h
        · have hr := HR.out
          rw [ord_lt (t1 h)] at hr
          subst hr
          have q1 : ((x : Int) == (y : Int)) = false := by rw [beq_eq_false_iff_ne]; omega
          have q2 : ((x : Int) != (y : Int)) = true := by rw [bne, q1]; rfl
          have q3 : (x : Int) < (y : Int) := by omega
          clear hbr t1 t2 t3 h hz hZ
          go_wp2
          go_quiet (fail)
          go_wp2
          go_quiet (fail)
          go_wp2
          go_ret
          exact ⟨rfl, below_drawnN (below_drawnN HBR.out _) _⟩
        · subst h
          have q1 : ((x : Int) == (x : Int)) = true := by simp
          have q2 : ((x : Int) != (x : Int)) = false := by simp
          have HV2 := Lib.hid (t3 rfl)
          clear hbr t1 t2 t3 hz hZ
          go_wp2
          go_quiet (fail)
          go_wp2
          clear a5 a6 a7
          go_roundw
          case rel => exact ⟨J, Z, rfl, by rw [HZ.out]; omega, by omega, HV2, below_drawnN HBR.out _⟩
          case measure => rw [intOf, intOf, HZ.out]; omega
        · have hr := HR.out
          rw [ord_gt (t2 h)] at hr
          subst hr
          have q1 : ((x : Int) == (y : Int)) = false := by rw [beq_eq_false_iff_ne]; omega
          have q2 : ((x : Int) != (y : Int)) = true := by rw [bne, q1]; rfl
          have q3 : ¬ (x : Int) < (y : Int) := by omega
          clear hbr t1 t2 t3 h hz hZ
          go_wp2
          go_quiet (fail)
          go_wp2
          go_quiet (fail)
          go_wp2
          go_ret
          exact ⟨rfl, below_drawnN (below_drawnN HBR.out _) _⟩
  · rw [ord_gt (dlen_lt (by omega))]
    have q1 : ((L1 : Int) == (L2 : Int)) = false := by rw [beq_eq_false_iff_ne]; omega
    have q2 : ((L1 : Int) != (L2 : Int)) = true := by rw [bne, q1]; rfl
    have q3 : ¬ (L1 : Int) < (L2 : Int) := by omega
    clear e1 e2 h1 h2 h
    go_enter Tryz.func81, Tryz.ntmps81
    go_wp2
    go_ret
    exact ⟨rfl, Below.refl _ _⟩
end Go.Proofs.YtgpncnnlhhmjaaaGreatDoor
namespace Go.Proofs.YtgpncnnlhhmjaaaGreatDoor
open Go.RowKit

/-- The slice lies at block B or above. -/
def Far (B : Nat) (A : Option Addr) : Prop := ∀ ad, A = some ad → B ≤ ad.block
theorem own_dlf {w : World} {B n : Nat} {v : Value} (l : List Nat) (hn : n = l.length) (h : w.ownsRow B 3 1 v n (iV (zs l))) :
    ∃ A c, v = .slice A n c ∧ Dl w w.heap.size A n c l ∧ Far B A := by
  obtain ⟨A, c, h1, h2⟩ := own_dl l hn h
  refine ⟨A, c, h1, h2, fun ad e => ?_⟩
  rcases h.2 with ⟨h3, _⟩ | ⟨g, cap, cur, h3, hB, _⟩
  · rw [h1] at h3; injection h3 with h4; rw [e] at h4; cases h4
  · rw [h1] at h3; injection h3 with h4; rw [e] at h4; cases h4; exact hB
theorem plus_len {m n i c : Nat} {l : List Nat} (h : PlusAt m n i c l) : i ≤ (dg m).length + (dg n).length + 1 := by
  obtain ⟨h1, h2, _⟩ := h
  have h3 := congrArg List.length h1
  rw [List.length_append, h2] at h3
  have a := (dg_len m ((dg m).length + (dg n).length)).1 (by omega)
  have b := (dg_len n ((dg m).length + (dg n).length)).1 (by omega)
  have c := (dg_len (m + n) ((dg m).length + (dg n).length + 1)).2 (by rw [Nat.pow_succ]; omega)
  omega
theorem quo10 (x : Nat) : ((x : Int)).tdiv 10 = ((x / 10 : Nat) : Int) := by rw [Int.tdiv_eq_ediv_of_nonneg (by omega)]; omega
theorem dl_zero {w : World} {B : Nat} {A : Option Addr} {L c n i : Nat} (h : Dl w B A L c (dg n)) (hi : L ≤ i) : n / 10 ^ i = 0 := by
  have a := dg_in n i
  rw [← h.len] at a
  generalize n / 10 ^ i = p at *
  omega
theorem dl_pos {w : World} {B : Nat} {A : Option Addr} {L c n i : Nat} (h : Dl w B A L c (dg n)) (hi : i < L) : 0 < n / 10 ^ i := (dg_in n i).1 (by rw [← h.len]; exact hi)

set_option maxRecDepth 100000 in
set_option maxHeartbeats 8000000 in
theorem rplus_any (A1 A2 : Option Addr) (L1 c1 m L2 c2 n : Nat) (m1 : L1 ≤ 2000) (m2 : L2 ≤ 2000) (w : World) (h1 : Dl w w.heap.size A1 L1 c1 (dg m)) (h2 : Dl w w.heap.size A2 L2 c2 (dg n)) :
    Calls Tryz.prog 79 #[.slice A1 L1 c1, .slice A2 L2 c2] w fun e w' => ∃ A L c, e = .returned (.slice A L c) ∧ Dl w' w'.heap.size A L c (dg (m + n)) ∧ Far w.heap.size A ∧ Below w.heap.size w w' := by
  obtain ⟨i0, hi, hz0, hz1, hz2⟩ := info_parts int_info
  have cap1 := h1.cap; have top1 := h1.top; have cap2 := h2.cap; have top2 := h2.top
  have H1 := Lib.hid h1; have H2 := Lib.hid h2
  clear h1 h2
  go_enter Tryz.func79, Tryz.ntmps79
  go_wp2
  go_loopw [5, 6, 7] (fun v vc p wr => ∃ (i c : Nat) (C : Int) (l : List Nat), p = .int .i64 i ∧ vc = .int .i64 C ∧ C = (c : Int) ∧ i ≤ L1 + L2 + 1 ∧ i = l.length ∧ Hid (PlusAt m n i c l) ∧ wr.ownsRow w.heap.size 3 1 v i (iV (zs l)) ∧ Below w.heap.size w wr) (fun _ _ p _ => L1 + L2 + 2 - (intOf p).toNat)
  case atStart => exact ⟨0, 0, 0, [], rfl, rfl, rfl, by omega, rfl, Lib.hid (plus_start m n), World.ownsRow_nil _ _ _ _, Below.refl _ _⟩
  case round =>
    obtain ⟨i, c, C, l, rfl, rfl, hC, hi1, hl, HP, hrow, hbr⟩ := hrel
    have HR := Lib.hid hrow; have HL := Lib.hid hl; have HBR := Lib.hid hbr; have HC := Lib.hid hC
    have hc1 := HP.out.2.2
    have mx1 : i + 1 ≤ maxLen := by unfold maxLen; omega
    have mx2 : (i + 1) * 8 ≤ 140737488355328 := by omega
    by_cases h1 : i < L1
    · by_cases h2 : i < L2
      · skip
        have j1 : (i : Int) < (L1 : Int) := by omega
        have j2 : (i : Int) < (L2 : Int) := by omega
        obtain ⟨b1, o1, rfl, hb1⟩ := H1.out.form (by omega)
        have k1 := (H1.out.below hbr).dig (J := i) (by omega)
        have z1 := dl_pos H1.out (i := i) (by omega)
        obtain ⟨b2, o2, rfl, hb2⟩ := H2.out.form (by omega)
        have k2 := (H2.out.below hbr).dig (J := i) (by omega)
        have z2 := dl_pos H2.out (i := i) (by omega)
        have st := fun s hs => plus_step HP.out (s := s) (by omega) hs
        have x9 := dig9 m i; have y9 := dig9 n i
        generalize m / 10 ^ i % 10 = x at k1 st x9
        generalize n / 10 ^ i % 10 = y at k2 st y9
        clear z1 z2
        obtain ⟨s, hs⟩ : ∃ s, s = c + x + y := ⟨_, rfl⟩
        have st := st s hs
        obtain ⟨S, hS⟩ : ∃ S : Int, S = (s : Int) := ⟨_, rfl⟩
        obtain ⟨S1, hS1⟩ : ∃ S1 : Int, S1 = C + (x : Int) := ⟨_, rfl⟩
        have a1 : IntKind.i64.wrap (C + (x : Int)) = S1 := by rw [← hS1]; exact i64_in _ (by omega) (by omega)
        have a2 : IntKind.i64.wrap (S1 + (y : Int)) = S := by rw [show S1 + (y : Int) = S by omega]; exact i64_in _ (by omega) (by omega)
        obtain ⟨T, hT⟩ : ∃ T : Int, T = ((s % 10 : Nat) : Int) := ⟨_, rfl⟩
        obtain ⟨U, hU⟩ : ∃ U : Int, U = ((s / 10 : Nat) : Int) := ⟨_, rfl⟩
        have a3 : S.tmod 10 = T := by rw [hS, rem10, hT]
        have a4 : S.tdiv 10 = U := by rw [hS, quo10, hU]
        have a5 : wrap64 T = T := w64_in _ (by omega) (by omega)
        have a6 : IntKind.i64.wrap T = T := i64_in _ (by omega) (by omega)
        have a7 : wrap64 U = U := w64_in _ (by omega) (by omega)
        have a8 : IntKind.i64.wrap U = U := i64_in _ (by omega) (by omega)
        have a9 : wrap64 S1 = S1 := w64_in _ (by omega) (by omega)
        have a10 : wrap64 S = S := w64_in _ (by omega) (by omega)
        have hsn : iV (zs (l ++ [s % 10])) = iV (zs l) ++ [.int .i64 T] := by rw [iV_snoc, hT]
        have HSN := Lib.hid hsn; have HST := Lib.hid st; have HU := Lib.hid hU
        have ka := keep_alloc hbr (.cells #[.int .i64 T] 3)
        have i0n : (0 : Int) ≤ (i : Int) := by omega
        clear hsn st hU hT hs hbr hrow hl hC hc1 x9 y9 hS1 hS
        go_wp2_with (at_builtin; refine wpList_append_own _ rfl _ _ 40 rfl w.heap.size 3 i0 (.int .i64 0) 1 8 Tryz.underlying40 hi hz0 hz1 hz2 rfl (by decide) _ _ _ rfl (HR.out.alloc _) ⟨wr.heap.size, 0, none⟩ 1 1 [.int .i64 T] rfl rfl (cell_one_new _ _ _) (by simp [Value.oneCell']) mx1 mx2 ka.size ?_; intro v1 w1 hown1 hgrow _)
        clear a1 a2 a9 a3 a4 a5 a6 a7 a8 a10
        go_roundw
        case rel => exact ⟨i + 1, s / 10, U, l ++ [s % 10], by go_num, rfl, HU.out, by have := plus_len HST.out; rw [← H1.out.len, ← H2.out.len] at this; exact this, by rw [List.length_append, ← HL.out]; rfl, HST, by rw [HSN.out]; exact hown1, keep_grown ka hgrow (HR.out.alloc _)⟩
        case measure => have := plus_len HST.out; rw [← H1.out.len, ← H2.out.len] at this; simp [intOf]; omega
      · skip
        have j1 : (i : Int) < (L1 : Int) := by omega
        have j2 : ¬ (i : Int) < (L2 : Int) := by omega
        obtain ⟨b1, o1, rfl, hb1⟩ := H1.out.form (by omega)
        have k1 := (H1.out.below hbr).dig (J := i) (by omega)
        have z1 := dl_pos H1.out (i := i) (by omega)
        have z2 := dl_zero H2.out (i := i) (by omega)
        have st := fun s hs => plus_step HP.out (s := s) (by omega) hs
        have x9 := dig9 m i; have y9 := dig9 n i
        have y0 : n / 10 ^ i % 10 = 0 := by rw [z2]
        generalize m / 10 ^ i % 10 = x at k1 st x9
        generalize n / 10 ^ i % 10 = y at st y9 y0
        clear z1 z2
        subst y0
        obtain ⟨s, hs⟩ : ∃ s, s = c + x + 0 := ⟨_, rfl⟩
        have st := st s hs
        obtain ⟨S, hS⟩ : ∃ S : Int, S = (s : Int) := ⟨_, rfl⟩
        have a1 : IntKind.i64.wrap (C + (x : Int)) = S := by rw [show C + (x : Int) = S by omega]; exact i64_in _ (by omega) (by omega)
        obtain ⟨T, hT⟩ : ∃ T : Int, T = ((s % 10 : Nat) : Int) := ⟨_, rfl⟩
        obtain ⟨U, hU⟩ : ∃ U : Int, U = ((s / 10 : Nat) : Int) := ⟨_, rfl⟩
        have a3 : S.tmod 10 = T := by rw [hS, rem10, hT]
        have a4 : S.tdiv 10 = U := by rw [hS, quo10, hU]
        have a5 : wrap64 T = T := w64_in _ (by omega) (by omega)
        have a6 : IntKind.i64.wrap T = T := i64_in _ (by omega) (by omega)
        have a7 : wrap64 U = U := w64_in _ (by omega) (by omega)
        have a8 : IntKind.i64.wrap U = U := i64_in _ (by omega) (by omega)
        have a10 : wrap64 S = S := w64_in _ (by omega) (by omega)
        have hsn : iV (zs (l ++ [s % 10])) = iV (zs l) ++ [.int .i64 T] := by rw [iV_snoc, hT]
        have HSN := Lib.hid hsn; have HST := Lib.hid st; have HU := Lib.hid hU
        have ka := keep_alloc hbr (.cells #[.int .i64 T] 3)
        have i0n : (0 : Int) ≤ (i : Int) := by omega
        clear hsn st hU hT hs hbr hrow hl hC hc1 x9 y9 hS
        go_wp2_with (at_builtin; refine wpList_append_own _ rfl _ _ 40 rfl w.heap.size 3 i0 (.int .i64 0) 1 8 Tryz.underlying40 hi hz0 hz1 hz2 rfl (by decide) _ _ _ rfl (HR.out.alloc _) ⟨wr.heap.size, 0, none⟩ 1 1 [.int .i64 T] rfl rfl (cell_one_new _ _ _) (by simp [Value.oneCell']) mx1 mx2 ka.size ?_; intro v1 w1 hown1 hgrow _)
        clear a1 a3 a4 a5 a6 a7 a8 a10
        go_roundw
        case rel => exact ⟨i + 1, s / 10, U, l ++ [s % 10], by go_num, rfl, HU.out, by have := plus_len HST.out; rw [← H1.out.len, ← H2.out.len] at this; exact this, by rw [List.length_append, ← HL.out]; rfl, HST, by rw [HSN.out]; exact hown1, keep_grown ka hgrow (HR.out.alloc _)⟩
        case measure => have := plus_len HST.out; rw [← H1.out.len, ← H2.out.len] at this; simp [intOf]; omega
    · by_cases h2 : i < L2
      · skip
        have j1 : ¬ (i : Int) < (L1 : Int) := by omega
        have j2 : (i : Int) < (L2 : Int) := by omega
        have z1 := dl_zero H1.out (i := i) (by omega)
        obtain ⟨b2, o2, rfl, hb2⟩ := H2.out.form (by omega)
        have k2 := (H2.out.below hbr).dig (J := i) (by omega)
        have z2 := dl_pos H2.out (i := i) (by omega)
        have st := fun s hs => plus_step HP.out (s := s) (by omega) hs
        have x9 := dig9 m i; have y9 := dig9 n i
        have x0 : m / 10 ^ i % 10 = 0 := by rw [z1]
        generalize m / 10 ^ i % 10 = x at st x9 x0
        generalize n / 10 ^ i % 10 = y at k2 st y9
        clear z1 z2
        subst x0
        obtain ⟨s, hs⟩ : ∃ s, s = c + 0 + y := ⟨_, rfl⟩
        have st := st s hs
        obtain ⟨S, hS⟩ : ∃ S : Int, S = (s : Int) := ⟨_, rfl⟩
        have a1 : IntKind.i64.wrap (C + (y : Int)) = S := by rw [show C + (y : Int) = S by omega]; exact i64_in _ (by omega) (by omega)
        obtain ⟨T, hT⟩ : ∃ T : Int, T = ((s % 10 : Nat) : Int) := ⟨_, rfl⟩
        obtain ⟨U, hU⟩ : ∃ U : Int, U = ((s / 10 : Nat) : Int) := ⟨_, rfl⟩
        have a3 : S.tmod 10 = T := by rw [hS, rem10, hT]
        have a4 : S.tdiv 10 = U := by rw [hS, quo10, hU]
        have a5 : wrap64 T = T := w64_in _ (by omega) (by omega)
        have a6 : IntKind.i64.wrap T = T := i64_in _ (by omega) (by omega)
        have a7 : wrap64 U = U := w64_in _ (by omega) (by omega)
        have a8 : IntKind.i64.wrap U = U := i64_in _ (by omega) (by omega)
        have a10 : wrap64 S = S := w64_in _ (by omega) (by omega)
        have hsn : iV (zs (l ++ [s % 10])) = iV (zs l) ++ [.int .i64 T] := by rw [iV_snoc, hT]
        have HSN := Lib.hid hsn; have HST := Lib.hid st; have HU := Lib.hid hU
        have ka := keep_alloc hbr (.cells #[.int .i64 T] 3)
        have i0n : (0 : Int) ≤ (i : Int) := by omega
        clear hsn st hU hT hs hbr hrow hl hC hc1 x9 y9 hS
        go_wp2_with (at_builtin; refine wpList_append_own _ rfl _ _ 40 rfl w.heap.size 3 i0 (.int .i64 0) 1 8 Tryz.underlying40 hi hz0 hz1 hz2 rfl (by decide) _ _ _ rfl (HR.out.alloc _) ⟨wr.heap.size, 0, none⟩ 1 1 [.int .i64 T] rfl rfl (cell_one_new _ _ _) (by simp [Value.oneCell']) mx1 mx2 ka.size ?_; intro v1 w1 hown1 hgrow _)
        clear a1 a3 a4 a5 a6 a7 a8 a10
        go_roundw
        case rel => exact ⟨i + 1, s / 10, U, l ++ [s % 10], by go_num, rfl, HU.out, by have := plus_len HST.out; rw [← H1.out.len, ← H2.out.len] at this; exact this, by rw [List.length_append, ← HL.out]; rfl, HST, by rw [HSN.out]; exact hown1, keep_grown ka hgrow (HR.out.alloc _)⟩
        case measure => have := plus_len HST.out; rw [← H1.out.len, ← H2.out.len] at this; simp [intOf]; omega
      · by_cases h3 : 0 < c
        · skip
          have j1 : ¬ (i : Int) < (L1 : Int) := by omega
          have j2 : ¬ (i : Int) < (L2 : Int) := by omega
          have j3 : (0 : Int) < C := by omega
          have z1 := dl_zero H1.out (i := i) (by omega)
          have z2 := dl_zero H2.out (i := i) (by omega)
          have st := fun s hs => plus_step HP.out (s := s) (by omega) hs
          have x9 := dig9 m i; have y9 := dig9 n i
          have x0 : m / 10 ^ i % 10 = 0 := by rw [z1]
          have y0 : n / 10 ^ i % 10 = 0 := by rw [z2]
          generalize m / 10 ^ i % 10 = x at st x9 x0
          generalize n / 10 ^ i % 10 = y at st y9 y0
          clear z1 z2
          subst x0
          subst y0
          obtain ⟨s, hs⟩ : ∃ s, s = c + 0 + 0 := ⟨_, rfl⟩
          have st := st s hs
          obtain ⟨S, hS⟩ : ∃ S : Int, S = (s : Int) := ⟨_, rfl⟩
          have hCS : C = S := by omega
          subst hCS
          obtain ⟨T, hT⟩ : ∃ T : Int, T = ((s % 10 : Nat) : Int) := ⟨_, rfl⟩
          obtain ⟨U, hU⟩ : ∃ U : Int, U = ((s / 10 : Nat) : Int) := ⟨_, rfl⟩
          have a3 : C.tmod 10 = T := by rw [hS, rem10, hT]
          have a4 : C.tdiv 10 = U := by rw [hS, quo10, hU]
          have a5 : wrap64 T = T := w64_in _ (by omega) (by omega)
          have a6 : IntKind.i64.wrap T = T := i64_in _ (by omega) (by omega)
          have a7 : wrap64 U = U := w64_in _ (by omega) (by omega)
          have a8 : IntKind.i64.wrap U = U := i64_in _ (by omega) (by omega)
          have a10 : wrap64 C = C := w64_in _ (by omega) (by omega)
          have hsn : iV (zs (l ++ [s % 10])) = iV (zs l) ++ [.int .i64 T] := by rw [iV_snoc, hT]
          have HSN := Lib.hid hsn; have HST := Lib.hid st; have HU := Lib.hid hU
          have ka := keep_alloc hbr (.cells #[.int .i64 T] 3)
          have i0n : (0 : Int) ≤ (i : Int) := by omega
          clear hsn st hU hT hs hbr hrow hl hC hc1 x9 y9 hS
          go_wp2_with (at_builtin; refine wpList_append_own _ rfl _ _ 40 rfl w.heap.size 3 i0 (.int .i64 0) 1 8 Tryz.underlying40 hi hz0 hz1 hz2 rfl (by decide) _ _ _ rfl (HR.out.alloc _) ⟨wr.heap.size, 0, none⟩ 1 1 [.int .i64 T] rfl rfl (cell_one_new _ _ _) (by simp [Value.oneCell']) mx1 mx2 ka.size ?_; intro v1 w1 hown1 hgrow _)
          clear  a3 a4 a5 a6 a7 a8 a10
          go_roundw
          case rel => exact ⟨i + 1, s / 10, U, l ++ [s % 10], by go_num, rfl, HU.out, by have := plus_len HST.out; rw [← H1.out.len, ← H2.out.len] at this; exact this, by rw [List.length_append, ← HL.out]; rfl, HST, by rw [HSN.out]; exact hown1, keep_grown ka hgrow (HR.out.alloc _)⟩
          case measure => have := plus_len HST.out; rw [← H1.out.len, ← H2.out.len] at this; simp [intOf]; omega
        · have j1 : ¬ (i : Int) < (L1 : Int) := by omega
          have j2 : ¬ (i : Int) < (L2 : Int) := by omega
          have j3 : ¬ (0 : Int) < C := by omega
          have z1 := dl_zero H1.out (i := i) (by omega)
          have z2 := dl_zero H2.out (i := i) (by omega)
          have hend := plus_end HP.out (by rw [z1, z2]; omega)
          rw [hend] at hrow hl
          obtain ⟨A, c', rfl, hD, hF⟩ := own_dlf _ hl hrow
          have HD := Lib.hid hD; have HF := Lib.hid hF
          clear hrow hl hD hF hbr hC z1 z2 hend HR HL HP
          go_wp2
          go_ret
          exact ⟨A, i, c', rfl, HD.out, HF.out, HBR.out⟩
end Go.Proofs.YtgpncnnlhhmjaaaGreatDoor
namespace Go.Proofs.YtgpncnnlhhmjaaaGreatDoor
open Go.RowKit

set_option maxRecDepth 100000 in
set_option maxHeartbeats 8000000 in
theorem rminus_any (A1 A2 : Option Addr) (L1 c1 m L2 c2 n : Nat) (hmn : n ≤ m) (m1 : L1 ≤ 2000) (m2 : L2 ≤ 2000) (w : World) (h1 : Dl w w.heap.size A1 L1 c1 (dg m)) (h2 : Dl w w.heap.size A2 L2 c2 (dg n)) :
    Calls Tryz.prog 80 #[.slice A1 L1 c1, .slice A2 L2 c2] w fun e w' => ∃ A L c, e = .returned (.slice A L c) ∧ Dl w' w'.heap.size A L c (dg (m - n)) ∧ Far w.heap.size A ∧ Below w.heap.size w w' := by
  obtain ⟨i0, hi, hz0, hz1, hz2⟩ := info_parts int_info
  have cap1 := h1.cap; have top1 := h1.top; have cap2 := h2.cap; have top2 := h2.top
  have H1 := Lib.hid h1; have H2 := Lib.hid h2; have HMN := Lib.hid hmn
  clear h1 h2 hmn
  go_enter Tryz.func80, Tryz.ntmps80
  go_wp2
  go_loopw [5, 6, 7] (fun v vc p wr => ∃ (i c : Nat) (C : Int) (l : List Nat), p = .int .i64 i ∧ vc = .int .i64 C ∧ C = (c : Int) ∧ i ≤ L1 ∧ i = l.length ∧ Hid (MinusAt m n i c l) ∧ wr.ownsRow w.heap.size 3 1 v i (iV (zs l)) ∧ Below w.heap.size w wr) (fun _ _ p _ => L1 - (intOf p).toNat)
  case atStart => exact ⟨0, 0, 0, [], rfl, rfl, rfl, by omega, rfl, Lib.hid (minus_start HMN.out), World.ownsRow_nil _ _ _ _, Below.refl _ _⟩
  case round =>
    obtain ⟨i, c, C, l, rfl, rfl, hC, hi1, hl, HP, hrow, hbr⟩ := hrel
    have HR := Lib.hid hrow; have HL := Lib.hid hl; have HBR := Lib.hid hbr; have HC := Lib.hid hC
    have hc1 := HP.out.2.2.1
    have mx1 : i + 1 ≤ maxLen := by unfold maxLen; omega
    have mx2 : (i + 1) * 8 ≤ 140737488355328 := by omega
    by_cases h1 : i < L1
    · have j1 : (i : Int) < (L1 : Int) := by omega
      have i0n : (0 : Int) ≤ (i : Int) := by omega
      obtain ⟨b1, o1, rfl, hb1⟩ := H1.out.form (by omega)
      have k1 := (H1.out.below hbr).dig (J := i) (by omega)
      have x9 := dig9 m i; have y9 := dig9 n i
      have st := fun d b' h h9 hb => minus_step HP.out (d := d) (b' := b') h h9 hb
      have y0 := fun h => dl_zero H2.out (i := i) h
      have k2 := fun b2 o2 (h : A2 = some ⟨b2, o2, none⟩) (hi : i < L2) => ((show Dl w w.heap.size (some ⟨b2, o2, none⟩) L2 c2 (dg n) by rw [← h]; exact H2.out).below hbr).dig hi
      have y1 : L2 ≤ i → n / 10 ^ i % 10 = 0 := fun h => by rw [y0 h]
      clear y0
      generalize m / 10 ^ i % 10 = x at k1 st x9
      generalize n / 10 ^ i % 10 = y at k2 st y9 y1
      obtain ⟨D1, hD1⟩ : ∃ D1 : Int, D1 = (x : Int) - C := ⟨_, rfl⟩
      have a1 : IntKind.i64.wrap ((x : Int) - C) = D1 := by rw [← hD1]; exact i64_in _ (by omega) (by omega)
      have a2 : wrap64 D1 = D1 := w64_in _ (by omega) (by omega)
      by_cases h2 : i < L2
      · by_cases h3 : (x : Int) - C - (y : Int) < 0
        · skip
          have j2 : (i : Int) < (L2 : Int) := by omega
          obtain ⟨b2, o2, rfl, hb2⟩ := H2.out.form (by omega)
          have k2 := k2 b2 o2 rfl (by omega)
          obtain ⟨D, hD⟩ : ∃ D : Int, D = D1 - (y : Int) := ⟨_, rfl⟩
          have a3 : IntKind.i64.wrap (D1 - (y : Int)) = D := by rw [← hD]; exact i64_in _ (by omega) (by omega)
          have a4 : wrap64 D = D := w64_in _ (by omega) (by omega)
          have hlt : D < 0 := by omega
          obtain ⟨d, hd⟩ : ∃ d : Nat, d + y + c = x + 10 * 1 := ⟨x + 10 * 1 - y - c, by omega⟩
          have st := st d 1 hd (by omega) (by omega)
          obtain ⟨T, hT⟩ : ∃ T : Int, T = (d : Int) := ⟨_, rfl⟩
          have a5 : IntKind.i64.wrap (D + 10) = T := by rw [show D + 10 = T by omega]; exact i64_in _ (by omega) (by omega)
          have a6 : wrap64 T = T := w64_in _ (by omega) (by omega)
          have hsn : iV (zs (l ++ [d])) = iV (zs l) ++ [.int .i64 T] := by rw [iV_snoc, hT]
          have HSN := Lib.hid hsn; have HST := Lib.hid st
          have ka := keep_alloc hbr (.cells #[.int .i64 T] 3)
          clear hsn st hT hd hbr hrow hl hC hc1 hD1 x9 hD y9 y1
          go_wp2_with (at_builtin; refine wpList_append_own _ rfl _ _ 40 rfl w.heap.size 3 i0 (.int .i64 0) 1 8 Tryz.underlying40 hi hz0 hz1 hz2 rfl (by decide) _ _ _ rfl (HR.out.alloc _) ⟨wr.heap.size, 0, none⟩ 1 1 [.int .i64 T] rfl rfl (cell_one_new _ _ _) (by simp [Value.oneCell']) mx1 mx2 ka.size ?_; intro v1 w1 hown1 hgrow _)
          clear a5 a6 a1 a2 a3 a4
          go_roundw
          case rel => exact ⟨i + 1, 1, 1, l ++ [d], by go_num, rfl, rfl, by omega, by rw [List.length_append, ← HL.out]; rfl, HST, by rw [HSN.out]; exact hown1, keep_grown ka hgrow (HR.out.alloc _)⟩
          case measure => simp [intOf]; omega
        · skip
          have j2 : (i : Int) < (L2 : Int) := by omega
          obtain ⟨b2, o2, rfl, hb2⟩ := H2.out.form (by omega)
          have k2 := k2 b2 o2 rfl (by omega)
          obtain ⟨D, hD⟩ : ∃ D : Int, D = D1 - (y : Int) := ⟨_, rfl⟩
          have a3 : IntKind.i64.wrap (D1 - (y : Int)) = D := by rw [← hD]; exact i64_in _ (by omega) (by omega)
          have a4 : wrap64 D = D := w64_in _ (by omega) (by omega)
          have hlt : ¬ D < 0 := by omega
          obtain ⟨d, hd⟩ : ∃ d : Nat, d + y + c = x + 10 * 0 := ⟨x + 10 * 0 - y - c, by omega⟩
          have st := st d 0 hd (by omega) (by omega)
          obtain ⟨T, hT⟩ : ∃ T : Int, T = (d : Int) := ⟨_, rfl⟩
          have hTD : T = D := by omega
          have hT2 : D = (d : Int) := by omega
          clear hTD hT
          have hsn : iV (zs (l ++ [d])) = iV (zs l) ++ [.int .i64 D] := by rw [iV_snoc, hT2]
          have HSN := Lib.hid hsn; have HST := Lib.hid st
          have ka := keep_alloc hbr (.cells #[.int .i64 D] 3)
          clear hsn st hT2 hd hbr hrow hl hC hc1 hD1 x9 hD y9 y1
          go_wp2_with (at_builtin; refine wpList_append_own _ rfl _ _ 40 rfl w.heap.size 3 i0 (.int .i64 0) 1 8 Tryz.underlying40 hi hz0 hz1 hz2 rfl (by decide) _ _ _ rfl (HR.out.alloc _) ⟨wr.heap.size, 0, none⟩ 1 1 [.int .i64 D] rfl rfl (cell_one_new _ _ _) (by simp [Value.oneCell']) mx1 mx2 ka.size ?_; intro v1 w1 hown1 hgrow _)
          clear  a1 a2 a3 a4
          go_roundw
          case rel => exact ⟨i + 1, 0, 0, l ++ [d], by go_num, rfl, rfl, by omega, by rw [List.length_append, ← HL.out]; rfl, HST, by rw [HSN.out]; exact hown1, keep_grown ka hgrow (HR.out.alloc _)⟩
          case measure => simp [intOf]; omega
      · by_cases h3 : (x : Int) - C < 0
        · skip
          have j2 : ¬ (i : Int) < (L2 : Int) := by omega
          have y0 := y1 (by omega)
          subst y0
          have hlt : D1 < 0 := by omega
          obtain ⟨d, hd⟩ : ∃ d : Nat, d + 0 + c = x + 10 * 1 := ⟨x + 10 * 1 - 0 - c, by omega⟩
          have st := st d 1 hd (by omega) (by omega)
          obtain ⟨T, hT⟩ : ∃ T : Int, T = (d : Int) := ⟨_, rfl⟩
          have a5 : IntKind.i64.wrap (D1 + 10) = T := by rw [show D1 + 10 = T by omega]; exact i64_in _ (by omega) (by omega)
          have a6 : wrap64 T = T := w64_in _ (by omega) (by omega)
          have hsn : iV (zs (l ++ [d])) = iV (zs l) ++ [.int .i64 T] := by rw [iV_snoc, hT]
          have HSN := Lib.hid hsn; have HST := Lib.hid st
          have ka := keep_alloc hbr (.cells #[.int .i64 T] 3)
          clear hsn st hT hd hbr hrow hl hC hc1 hD1 x9 k2 y1 y9
          go_wp2_with (at_builtin; refine wpList_append_own _ rfl _ _ 40 rfl w.heap.size 3 i0 (.int .i64 0) 1 8 Tryz.underlying40 hi hz0 hz1 hz2 rfl (by decide) _ _ _ rfl (HR.out.alloc _) ⟨wr.heap.size, 0, none⟩ 1 1 [.int .i64 T] rfl rfl (cell_one_new _ _ _) (by simp [Value.oneCell']) mx1 mx2 ka.size ?_; intro v1 w1 hown1 hgrow _)
          clear a5 a6 a1 a2
          go_roundw
          case rel => exact ⟨i + 1, 1, 1, l ++ [d], by go_num, rfl, rfl, by omega, by rw [List.length_append, ← HL.out]; rfl, HST, by rw [HSN.out]; exact hown1, keep_grown ka hgrow (HR.out.alloc _)⟩
          case measure => simp [intOf]; omega
        · skip
          have j2 : ¬ (i : Int) < (L2 : Int) := by omega
          have y0 := y1 (by omega)
          subst y0
          have hlt : ¬ D1 < 0 := by omega
          obtain ⟨d, hd⟩ : ∃ d : Nat, d + 0 + c = x + 10 * 0 := ⟨x + 10 * 0 - 0 - c, by omega⟩
          have st := st d 0 hd (by omega) (by omega)
          obtain ⟨T, hT⟩ : ∃ T : Int, T = (d : Int) := ⟨_, rfl⟩
          have hTD : T = D1 := by omega
          have hT2 : D1 = (d : Int) := by omega
          clear hTD hT
          have hsn : iV (zs (l ++ [d])) = iV (zs l) ++ [.int .i64 D1] := by rw [iV_snoc, hT2]
          have HSN := Lib.hid hsn; have HST := Lib.hid st
          have ka := keep_alloc hbr (.cells #[.int .i64 D1] 3)
          clear hsn st hT2 hd hbr hrow hl hC hc1 hD1 x9 k2 y1 y9
          go_wp2_with (at_builtin; refine wpList_append_own _ rfl _ _ 40 rfl w.heap.size 3 i0 (.int .i64 0) 1 8 Tryz.underlying40 hi hz0 hz1 hz2 rfl (by decide) _ _ _ rfl (HR.out.alloc _) ⟨wr.heap.size, 0, none⟩ 1 1 [.int .i64 D1] rfl rfl (cell_one_new _ _ _) (by simp [Value.oneCell']) mx1 mx2 ka.size ?_; intro v1 w1 hown1 hgrow _)
          clear  a1 a2
          go_roundw
          case rel => exact ⟨i + 1, 0, 0, l ++ [d], by go_num, rfl, rfl, by omega, by rw [List.length_append, ← HL.out]; rfl, HST, by rw [HSN.out]; exact hown1, keep_grown ka hgrow (HR.out.alloc _)⟩
          case measure => simp [intOf]; omega
    · have j1 : ¬ (i : Int) < (L1 : Int) := by omega
      have z1 := dl_zero H1.out (i := i) (by omega)
      have hend := minus_end HP.out z1
      have hsm := HP.out.2.2.2
      obtain ⟨A, c', rfl, hD, hF⟩ := own_dlf _ hl hrow
      have cT := trim_any A i c' wr.heap.size l hsm (by omega) wr hD
      rw [hend] at cT
      have HF := Lib.hid hF
      clear hrow hl hD hF hbr hC z1 hend hsm HR HL HP
      go_wp2_with (first | (go_at_call 100; (with_reducible refine cT.mono ?_); rintro e w' ⟨⟨L', rfl, hD'⟩, rfl⟩) | fail)
      have HD := Lib.hid hD'
      clear hD'
      go_ret
      exact ⟨A, L', c', rfl, HD.out, HF.out, HBR.out⟩
end Go.Proofs.YtgpncnnlhhmjaaaGreatDoor
