/- between.Valid, Allowed. -/
import Derived.Test.YtkeimfkaoianmaaLeaf
import Derived.Deep.LoopGhost
import Derived.Deep.DeepCutAuto
import Derived.Deep.Cut
namespace Go.Proofs.Ytkeimfkaoianmaa
open Go.RowKit

def validB (N : Int) (bs : List Bn) : Bool := decide (0 ≤ N) && decide (N ≤ 16) && decide (bs.length ≤ 60) && bs.all (bndB N)
theorem validB_iff {N : Int} {bs : List Bn} : validB N bs = true ↔ (0 ≤ N ∧ N ≤ 16) ∧ bs.length ≤ 60 ∧ Okb N bs := by
  unfold validB
  simp only [Bool.and_eq_true, decide_eq_true_eq, List.all_eq_true, bndB, varB_iff, inB_iff]
  constructor
  · rintro ⟨⟨h1, h2⟩, h3⟩
    exact ⟨h1, h2, fun c hc => ⟨(h3 c hc).1.1, (h3 c hc).1.2, (h3 c hc).2⟩⟩
  · rintro ⟨h1, h2, h3⟩
    exact ⟨⟨h1, h2⟩, fun c hc => ⟨⟨(h3 c hc).1, (h3 c hc).2.1⟩, (h3 c hc).2.2⟩⟩

set_option maxRecDepth 100000 in
set_option maxHeartbeats 4000000 in
theorem valid_any (N : Int) (bs : List Bn) (A : Option Addr) (c : Nat) (hn : bs.length ≤ 9223372036854775807) (w : World) (hr : Rds w w.heap.size A bs) :
    Calls Try.prog 22 #[btw N A bs.length c] w fun e w' => e = .returned (.bool (validB N bs)) ∧ Below w.heap.size w w' := by
  obtain ⟨L, hL⟩ : ∃ L, L = bs.length := ⟨_, rfl⟩
  have hv : validB N bs = (decide (0 ≤ N) && decide (N ≤ 16) && decide (L ≤ 60) && bs.all (bndB N)) := by rw [hL]; rfl
  rw [hv, ← hL]
  rw [← hL] at hn
  clear hv
  by_cases h0 : 0 ≤ N
  · by_cases h1 : N ≤ 16
    · by_cases h2 : L ≤ 60
      · rw [decide_eq_true h0, decide_eq_true h1, decide_eq_true h2, Bool.true_and, Bool.true_and, Bool.true_and]
        have hb := fun x W => isBound_any N A L c x W
        have HL := Lib.hid hL; have HR := Lib.hid hr; have HB := Lib.hid hb
        clear hL hr hb
        unfold btw bnd at *
        go_enter Try.func22, Try.ntmps22
        go_wp2
        go_loopg [4, 22] L (fun kx s4 s22 wr => ∃ k : Nat, s22 = .int .i64 (k : Int) ∧ k + kx = L ∧ Row wr w.heap.size 28 #[.int .i64 N, .slice A L c] ∧ Below w.heap.size w wr ∧ Hid ((bs.take k).all (bndB N) = true))
        case atStart => exact ⟨0, rfl, by omega, Row.made _ _ _, below_alloc _ _, Lib.hid (by simp)⟩
        case round =>
          obtain ⟨k, rfl, hk, hC, hb, I⟩ := hrel
          by_cases hlt : k < L
          · obtain ⟨⟨x, y, z⟩, hv⟩ : ∃ y, bs[k]? = some y := at_lt (by rw [← HL.out]; exact hlt)
            obtain ⟨bb, o, hA, hbb, e0, e1, e2⟩ := (HR.out.below hb).at hv
            subst hA
            dsimp only at e0 e1 e2
            obtain ⟨g0, g1, g2, g3⟩ := hC.two
            have hin := hC.inside
            have HC := Lib.hid hC; have HB' := Lib.hid hb; have HV := Lib.hid hv
            clear hC hb hv
            have hx := HB.out (x, y, z)
            dsimp only at hx
            obtain ⟨q, hq⟩ : ∃ q, q = bndB N (x, y, z) := ⟨_, rfl⟩
            rw [← hq] at hx
            have HX := Lib.hid hx; have HQ := Lib.hid hq
            clear hx hq
            have ht : (bs.take (k + 1)).all (bndB N) = q := by
              rw [List.take_add_one, HV.out, List.all_append, I.out, HQ.out]; simp
            have HT := Lib.hid ht
            clear ht
            cases q
            · go_wp2_with (go_at_call 48; (with_reducible refine (HX.out _).mono ?_); rintro e w2 ⟨rfl, b2⟩; have B2 := Lib.hid (below_step (HB'.out.alloc HB'.out.size _) b2); clear b2)
              go_ret
              refine ⟨?_, B2.out⟩
              have : bs.all (bndB N) = false := by
                rw [← List.take_append_drop (k + 1) bs, List.all_append, HT.out]; rfl
              rw [this]; rfl
            · go_wp2_with (go_at_call 48; (with_reducible refine (HX.out _).mono ?_); rintro e w2 ⟨rfl, b2⟩; have C2 := Lib.hid ((HC.out.later _).step b2); have B2 := Lib.hid (below_step (HB'.out.alloc HB'.out.size _) b2); clear b2)
              go_roundg (L - (k + 1))
              case measure => omega
              case rel => exact ⟨k + 1, by go_num, by omega, C2.out, B2.out, HT⟩
          · have HB' := Lib.hid hb
            clear hC hb
            have hI := I.out
            rw [List.take_of_length_le (by rw [← HL.out]; omega)] at hI
            have HI := Lib.hid hI
            clear I hI
            go_wp2
            go_ret
            exact ⟨by rw [HI.out]; rfl, HB'.out⟩
      · rw [decide_eq_false h2, Bool.and_false, Bool.false_and]
        clear hL
        unfold btw
        go_enter Try.func22, Try.ntmps22
        go_wp2
        go_ret
        exact ⟨rfl, below_alloc _ _⟩
    · rw [decide_eq_false h1, Bool.and_false, Bool.false_and, Bool.false_and]
      clear hL
      unfold btw
      go_enter Try.func22, Try.ntmps22
      go_wp2
      go_ret
      exact ⟨rfl, below_alloc _ _⟩
  · rw [decide_eq_false h0, Bool.false_and, Bool.false_and, Bool.false_and]
    clear hL
    unfold btw
    go_enter Try.func22, Try.ntmps22
    go_wp2
    go_ret
    exact ⟨rfl, below_alloc _ _⟩

def keepsB (bs : List Bn) (x : List Int) : Bool := bs.all fun c => decide (x.getD c.2.1.toNat 0 - x.getD c.1.toNat 0 ≤ c.2.2)
def allowedB (N : Int) (bs : List Bn) (x : List Int) : Bool := validB N bs && decide ((x.length : Int) = N) && x.all (inB 1000000000000) && keepsB bs x

set_option maxRecDepth 100000 in
set_option maxHeartbeats 4000000 in
theorem allowed_any (N : Int) (bs : List Bn) (A : Option Addr) (c : Nat) (x : List Int) (XA : Option Addr) (xc : Nat) (hn : bs.length ≤ 9223372036854775807) (hx : x.length ≤ 9223372036854775807) (w : World) (hr : Rds w w.heap.size A bs) (hX : Nums w w.heap.size XA x) :
    Calls Try.prog 27 #[btw N A bs.length c, .slice XA x.length xc] w fun e w' => e = .returned (.bool (allowedB N bs x)) ∧ Below w.heap.size w w' := by
  obtain ⟨L, hL⟩ : ∃ L, L = bs.length := ⟨_, rfl⟩
  obtain ⟨M, hM⟩ : ∃ M, M = x.length := ⟨_, rfl⟩
  have hv : allowedB N bs x = (validB N bs && decide ((M : Int) = N) && x.all (inB 1000000000000) && keepsB bs x) := by rw [hM]; rfl
  have hva := fun (W : World) (h : Below w.heap.size w W) => valid_any N bs A c hn W (hr.deep h)
  have hok := (validB_iff (N := N) (bs := bs)).1
  rw [hv, ← hL, ← hM]
  rw [← hL] at hn hva hok
  rw [← hM] at hx
  clear hv
  generalize validB N bs = V at *
  cases V
  · rw [Bool.false_and, Bool.false_and, Bool.false_and]
    have HV := Lib.hid hva
    clear hva hok hL hM hr hX
    unfold btw at *
    go_enter Try.func27, Try.ntmps27
    go_wp2_with (go_at_call 22; (with_reducible refine (HV.out _ (below_alloc _ _)).mono ?_); rintro e w2 ⟨rfl, b2⟩; have B2 := Lib.hid (below_step (below_alloc _ _) b2); clear b2)
    go_ret
    exact ⟨rfl, B2.out⟩
  · obtain ⟨⟨N0, N1⟩, hl60, hok⟩ := hok rfl
    rw [Bool.true_and]
    by_cases hN : (M : Int) = N
    · rw [decide_eq_true hN, Bool.true_and]
      have hN' : ((M : Int) == N) = true := by simpa using hN
      have HV := Lib.hid hva; have HO := Lib.hid hok; have HL := Lib.hid hL; have HM := Lib.hid hM; have HR := Lib.hid hr; have HX := Lib.hid hX
      clear hva hok hL hM hr hX hN'
      unfold btw at *
      subst hN
      go_enter Try.func27, Try.ntmps27
      go_wp2_with (go_at_call 22; (with_reducible refine (HV.out _ (below_alloc _ _)).mono ?_); rintro e w2 ⟨rfl, b2⟩; have r2 := (Row.made w 28 #[.int .i64 (M : Int), .slice A L c]).step b2; have R2 := Lib.hid r2; obtain ⟨k0, k1, _, _⟩ := r2.two; have B2 := Lib.hid (below_step (below_alloc _ _) b2); clear b2 r2)
      go_loopg [6, 21] M (fun kx s6 s21 wr => ∃ k : Nat, s21 = .int .i64 (k : Int) ∧ k + kx = M ∧ Hid ((x.take k).all (inB 1000000000000) = true) ∧ wr = w2)
      case atStart => exact ⟨0, rfl, by omega, Lib.hid (by simp), rfl⟩
      case round =>
        obtain ⟨k, rfl, hk, I, hwr⟩ := hrel
        subst hwr
        by_cases hlt : k < M
        · obtain ⟨v, hv⟩ : ∃ y, x[k]? = some y := at_lt (by rw [← HM.out]; exact hlt)
          obtain ⟨bb, o, hA, hbb, e0⟩ := (HX.out.below B2.out).at hv
          subst hA
          have HVV := Lib.hid hv
          clear hv
          have hw' := fun W => within_any v 1000000000000 (by omega) (by omega) W
          obtain ⟨q, hq⟩ : ∃ q, q = inB 1000000000000 v := ⟨_, rfl⟩
          rw [← hq] at hw'
          have HW := Lib.hid hw'; have HQ := Lib.hid hq
          clear hw' hq
          have ht : (x.take (k + 1)).all (inB 1000000000000) = q := by
            rw [List.take_add_one, HVV.out, List.all_append, I.out, HQ.out]; simp
          have HT := Lib.hid ht
          clear ht
          cases q
          · go_wp2_with (go_at_call 51; (with_reducible refine (HW.out _).mono ?_); rintro e wx ⟨rfl, hwx⟩; have hwx := hwx.symm; subst hwx)
            go_ret
            refine ⟨?_, B2.out⟩
            have : x.all (inB 1000000000000) = false := by
              rw [← List.take_append_drop (k + 1) x, List.all_append, HT.out]; rfl
            rw [this]; rfl
          · go_wp2_with (go_at_call 51; (with_reducible refine (HW.out _).mono ?_); rintro e wx ⟨rfl, hwx⟩; have hwx := hwx.symm; subst hwx)
            go_roundg (M - (k + 1))
            case measure => omega
            case rel => exact ⟨k + 1, by go_num, by omega, HT, rfl⟩
        · have hI := I.out
          rw [List.take_of_length_le (by rw [← HM.out]; omega)] at hI
          have HI := Lib.hid hI
          clear I hI
          go_wp2
          go_loopg [8, 32] L (fun kx s8 s32 wx => ∃ k : Nat, s32 = .int .i64 (k : Int) ∧ k + kx = L ∧ Below w.heap.size w wx ∧ Hid (keepsB (bs.take k) x = true))
          case atStart => exact ⟨0, rfl, by omega, B2.out, Lib.hid (by simp [keepsB])⟩
          case round =>
            clear k0 k1 R2 B2
            obtain ⟨j, rfl, hj, hb, I⟩ := hrel
            by_cases hjl : j < L
            · obtain ⟨⟨f, t, m⟩, hv⟩ : ∃ y, bs[j]? = some y := at_lt (by rw [← HL.out]; exact hjl)
              obtain ⟨bb, o, hA, hbb, e0, e1, e2⟩ := (HR.out.below hb).at hv
              subst hA
              obtain ⟨⟨f0, f1⟩, ⟨t0, t1⟩, m0, m1⟩ := HO.out.at hv
              dsimp only at e0 e1 e2 f0 f1 t0 t1 m0 m1
              obtain ⟨f, rfl⟩ := Int.eq_ofNat_of_zero_le f0
              obtain ⟨t, rfl⟩ := Int.eq_ofNat_of_zero_le t0
              obtain ⟨p, hp⟩ : ∃ y, x[f]? = some y := at_lt (by rw [← HM.out]; omega)
              obtain ⟨q, hq⟩ : ∃ y, x[t]? = some y := at_lt (by rw [← HM.out]; omega)
              obtain ⟨bx, ox, hXA, hbx, ep⟩ := (HX.out.below hb).at hp
              obtain ⟨_, _, hXA', _, eq⟩ := (HX.out.below hb).at hq
              subst hXA
              obtain ⟨rfl, rfl⟩ : _ ∧ _ := by simpa using hXA'
              have hs1 : bs.take (j + 1) = bs.take j ++ [((f : Int), (t : Int), m)] := by rw [List.take_add_one, hv]; rfl
              have hk1 : keepsB (bs.take (j + 1)) x = decide (q - p ≤ m) := by
                rw [hs1]; unfold keepsB at I ⊢
                rw [List.all_append, I.out]
                simp [hp, hq]
              have lp : inB 1000000000000 p = true := List.all_eq_true.1 HI.out p (List.mem_of_getElem? hp)
              have lq : inB 1000000000000 q = true := List.all_eq_true.1 HI.out q (List.mem_of_getElem? hq)
              obtain ⟨p0, p1⟩ := inB_iff.1 lp
              obtain ⟨q0, q1⟩ := inB_iff.1 lq
              have HK := Lib.hid hk1; have HS1 := Lib.hid hs1
              clear lp lq hs1 hk1 hp hq hv hXA'
              have hbx' : bx < wr.heap.size := Nat.lt_of_lt_of_le hbx hb.size
              have HB := Lib.hid hb
              clear hb
              have fM : (f : Int) < (M : Int) := f1
              have tM : (t : Int) < (M : Int) := t1
              have fM' : f < M := by omega
              have tM' : t < M := by omega
              by_cases hqp : q - p ≤ m
              · go_upto_region 12 with (fail)
                go_quiet (fail)
                go_wp2
                go_roundg (L - (j + 1))
                case measure => omega
                case rel => exact ⟨j + 1, by go_num, by omega, below_drawnN (HB.out.alloc HB.out.size _) _, Lib.hid (by rw [HK.out]; exact decide_eq_true hqp)⟩
              · go_upto_region 12 with (fail)
                go_quiet (fail)
                go_wp2
                go_ret
                refine ⟨?_, below_drawnN (HB.out.alloc HB.out.size _) _⟩
                have : keepsB bs x = false := by
                  have h := HK.out
                  rw [show decide (q - p ≤ m) = false from decide_eq_false (by omega)] at h
                  unfold keepsB at h ⊢
                  rw [← List.take_append_drop (j + 1) bs, List.all_append, h]; rfl
                rw [this, Bool.and_false]; rfl
            · have hI := I.out
              rw [List.take_of_length_le (by rw [← HL.out]; omega)] at hI
              have HJ := Lib.hid hI
              have HB := Lib.hid hb
              clear I hI hb
              go_wp2
              go_ret
              exact ⟨by rw [HI.out, HJ.out]; rfl, HB.out⟩
    · rw [decide_eq_false hN, Bool.false_and, Bool.false_and]
      have hN' : ((M : Int) == N) = false := by simpa using hN
      have hN2 : ((M : Int) != N) = true := by simpa using hN
      have HV := Lib.hid hva
      clear hva hok hL hM hr hX
      unfold btw at *
      go_enter Try.func27, Try.ntmps27
      go_wp2_with (go_at_call 22; (with_reducible refine (HV.out _ (below_alloc _ _)).mono ?_); rintro e w2 ⟨rfl, b2⟩; have r2 := (Row.made w 28 #[.int .i64 N, .slice A L c]).step b2; obtain ⟨k0, k1, _, _⟩ := r2.two; have B2 := Lib.hid (below_step (below_alloc _ _) b2); clear b2 r2)
      go_ret
      exact ⟨rfl, B2.out⟩
end Go.Proofs.Ytkeimfkaoianmaa
