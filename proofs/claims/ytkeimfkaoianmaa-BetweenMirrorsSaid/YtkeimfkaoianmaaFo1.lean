/- follow$1 and slices.IndexFunc over it. -/
import Derived.Test.YtkeimfkaoianmaaClo
import Derived.Test.YtkeimfkaoianmaaSp
namespace Go.Proofs.Ytkeimfkaoianmaa
open Go.RowKit

/-- What follow$1 reads: x in its box, the table in its box. -/
structure Fenv (n : Nat) (bs : List Bn) (k s px pr : Nat) (f t m : Int) (W : World) : Prop where
  x : Row W px 30 #[.int .i64 f, .int .i64 t, .int .i64 m]
  r : Row W pr 63 #[.slice (some ⟨s, 0, none⟩) n n]
  tbl : Tbl W s n (tb bs k)
theorem Fenv.step {n : Nat} {bs : List Bn} {k s px pr : Nat} {f t m : Int} {W X : World} (h : Fenv n bs k s px pr f t m W) (hb : Below W.heap.size W X) : Fenv n bs k s px pr f t m X := ⟨h.x.step hb, h.r.step hb, h.tbl.step hb⟩

set_option maxRecDepth 100000 in
set_option maxHeartbeats 4000000 in
theorem follow1_any (n : Nat) (bs : List Bn) (k s px pr : Nat) (f t m : Int) (c : Bn) (_hn : n ≤ 16) (ho : Okb n bs) (hk : k ≤ 100) (ht : 0 ≤ t ∧ t < n) (hc : c ∈ bs) (w : World) (h : Fenv n bs k s px pr f t m w) :
    Calls Try.prog 64 #[bnd c, .pointer (some ⟨px, 0, none⟩), .pointer (some ⟨pr, 0, none⟩)] w fun e w' => e = .returned (.bool (okN bs k f t m c)) ∧ Below w.heap.size w w' := by
  obtain ⟨cf, ct, cm⟩ := c
  obtain ⟨_, ⟨t0, t1⟩, m0, m1⟩ := ho _ hc
  unfold okN bnd
  dsimp only at t0 t1 m0 m1 ⊢
  obtain ⟨ct, rfl⟩ := Int.eq_ofNat_of_zero_le t0
  obtain ⟨t, rfl⟩ := Int.eq_ofNat_of_zero_le ht.1
  have c2 : ct < n := by omega
  have t2 : t < n := by have := ht.2; omega
  obtain ⟨W1, hW1⟩ : ∃ W1, W1 = w.alloc (.cells #[.int .i64 cf, .int .i64 (ct : Int), .int .i64 cm] 30) := ⟨_, rfl⟩
  have b1 : Below w.heap.size w W1 := by rw [hW1]; exact below_alloc _ _
  have r1 : Row W1 w.heap.size 30 #[.int .i64 cf, .int .i64 (ct : Int), .int .i64 cm] := by rw [hW1]; exact Row.made _ _ _
  have h1 := h.step b1
  obtain ⟨a0, a1, a2, _, _, _⟩ := r1.three
  obtain ⟨x0, x1, x2, _, _, _⟩ := h1.x.three
  have y0 := h1.r.at (i := 0) rfl
  have y1 := h1.tbl.cell c2
  have y2 := h1.tbl.val c2 t2
  obtain ⟨v, hv⟩ : ∃ v, v = tb bs k (ct : Int) (t : Int) := ⟨_, rfl⟩
  have hvb : v = farI ∨ (-1000000000000 ≤ v ∧ v ≤ 1000000000000) := by
    by_cases e : tb bs k (ct : Int) (t : Int) = farI
    · exact .inl (hv.trans e)
    · have := tb_bd ho e; right; omega
  have hvb2 : -1000000000000 ≤ v ∧ v ≤ 1152921504606846976 := by unfold farI at hvb; omega
  obtain ⟨v0, v1⟩ := hvb2
  rw [← hv] at y2 ⊢
  have ew : IntKind.i64.wrap (cm + v) = cm + v := IntWalk.i64_in _ (by omega)
  have HX := Lib.hid hW1; have B1 := Lib.hid b1
  clear hW1 b1 r1 h1 hv hvb h hc
  have pin := World.block_lt_of_cell? _ _ x0
  by_cases e1 : cf = f
  · subst e1
    have d1 : decide (cf = cf) = true := decide_eq_true rfl
    by_cases e2 : cm + v ≤ m
    · rw [d1, decide_eq_true e2]
      go_enter Try.func64, Try.ntmps64
      go_upto_region 1 with (fail)
      rw [← HX.out]
      go_quiet (fail)
      go_wp2
      go_ret
      exact ⟨by simp, below_drawnN B1.out _⟩
    · have d2 : decide (cm + v ≤ m) = false := decide_eq_false e2
      rw [d1, d2]
      go_enter Try.func64, Try.ntmps64
      go_upto_region 1 with (fail)
      rw [← HX.out]
      go_quiet (fail)
      go_wp2
      go_ret
      exact ⟨by simp, below_drawnN B1.out _⟩
  · have d1 : (cf == f) = false := by simpa using e1
    have d2 : decide (cf = f) = false := decide_eq_false e1
    rw [d2, Bool.false_and]
    go_enter Try.func64, Try.ntmps64
    go_upto_region 1 with (fail)
    rw [← HX.out]
    go_quiet (fail)
    go_wp2
    go_ret
    exact ⟨rfl, below_drawnN B1.out _⟩

set_option maxRecDepth 100000 in
set_option maxHeartbeats 4000000 in
theorem indexFunc_any (n : Nat) (bs : List Bn) (A : Option Addr) (c k s px pr i : Nat) (f t m : Int) (hn : n ≤ 16) (ho : Okb n bs) (h60 : bs.length ≤ 60) (hk : k ≤ 100) (ht : 0 ≤ t ∧ t < n) (hi : bs.findIdx? (okN bs k f t m) = some i) (w : World) (hr : Rds w w.heap.size A bs) (h : Fenv n bs k s px pr f t m w) :
    Calls Try.prog 63 #[.slice A bs.length c, .func (.func 64) #[] #[.pointer (some ⟨px, 0, none⟩), .pointer (some ⟨pr, 0, none⟩)]] w fun e w' => e = .returned (.int .i64 (i : Int)) ∧ Below w.heap.size w w' := by
  obtain ⟨L, hL⟩ : ∃ L, L = bs.length := ⟨_, rfl⟩
  obtain ⟨hlt, hp, hq⟩ := List.findIdx?_eq_some_iff_getElem.1 hi
  have hfo := fun (c : Bn) (hc : c ∈ bs) (W : World) (hb : Below w.heap.size w W) => follow1_any n bs k s px pr f t m c hn ho hk ht hc W (h.step hb)
  rw [← hL]
  rw [← hL] at h60
  have hiL : i < L := by omega
  have HL := Lib.hid hL; have HR := Lib.hid hr; have HP := Lib.hid hp; have HQ := Lib.hid hq; have HF := Lib.hid hfo
  clear hL hr hp hq hfo hi h ho ht
  go_enter Try.func63, Try.ntmps63
  go_wp2
  go_loopg [5, 8] L (fun kx s5 s8 wr => ∃ j : Nat, s8 = .int .i64 (j : Int) ∧ j + kx = L ∧ j ≤ i ∧ Below w.heap.size w wr)
  case atStart => exact ⟨0, rfl, by omega, by omega, Below.refl _ _⟩
  case round =>
    obtain ⟨j, rfl, hj, hji, hb⟩ := hrel
    have hjL : j < L := by omega
    obtain ⟨⟨x, y, z⟩, hv⟩ : ∃ y, bs[j]? = some y := at_lt (by rw [← HL.out]; exact hjL)
    obtain ⟨bb, o, hA, hbb, e0, e1, e2⟩ := (HR.out.below hb).at hv
    subst hA
    dsimp only at e0 e1 e2
    have hc := HF.out _ (List.mem_of_getElem? hv) wr hb
    unfold bnd at hc
    dsimp only at hc
    have HV := Lib.hid hv; have HB := Lib.hid hb
    clear hv hb
    obtain ⟨q, hq⟩ : ∃ q, q = okN bs k f t m (x, y, z) := ⟨_, rfl⟩
    rw [← hq] at hc
    have HC := Lib.hid hc; have HQQ := Lib.hid hq
    clear hc hq
    cases q
    · have hne : j < i := by
        rcases Nat.lt_or_ge j i with h | h
        · exact h
        · obtain rfl : j = i := by omega
          have h1 := HV.out
          rw [List.getElem?_eq_getElem hlt] at h1
          have h3 := Option.some.inj h1
          have := HP.out
          rw [h3, ← HQQ.out] at this; cases this
      go_wp2_with (go_at_call 64; (with_reducible refine HC.out.mono ?_); rintro e w2 ⟨rfl, b2⟩; have B2 := Lib.hid (below_step HB.out b2); clear b2)
      go_roundg (L - (j + 1))
      case measure => omega
      case rel => exact ⟨j + 1, by go_num, by omega, by omega, B2.out⟩
    · have heq : j = i := by
        rcases Nat.lt_or_ge j i with h | h
        · have h1 := HV.out
          rw [List.getElem?_eq_getElem (by omega)] at h1
          have h2 := HQ.out j h
          have h3 := Option.some.inj h1
          rw [h3, ← HQQ.out] at h2
          exact absurd rfl h2
        · omega
      have HE := Lib.hid heq
      clear heq
      go_wp2_with (go_at_call 64; (with_reducible refine HC.out.mono ?_); rintro e w2 ⟨rfl, b2⟩; have B2 := Lib.hid (below_step HB.out b2); clear b2)
      go_ret
      exact ⟨by rw [← HE.out]; rfl, B2.out⟩
end Go.Proofs.Ytkeimfkaoianmaa
