/- proves. -/
import Derived.Test.YtiglkecmamnphaaRi
namespace Go.Proofs.Ytiglkecmamnphaa
open Go.RowKit Go.Sort Go.Lib

set_option maxRecDepth 100000 in
set_option maxHeartbeats 8000000 in
theorem proves_any (b : Bk) (q : Qn) (n : Int) (l : List Fd) (LA : Option Addr) (lc : Nat) (h9 : l.length ≤ Big) (hcap : l.length ≤ lc) (cv rv fv av bv : Value) (w : World) (hw : VwV w w.heap.size cv rv fv av bv b q) (hc20 : b.cls.length ≤ 20) (hf20 : b.fct.length ≤ 20) (hl : FdsC w LA l) :
    Calls Try.prog 33 #[.agg #[cv, rv, fv, av, bv], .slice LA l.length lc, .int .i64 n] w fun e w' => e = .returned (.bool (provesB b q l n)) ∧ Below w.heap.size w w' := by
  have hri := fun (k : Nat) (hk : k ≤ l.length) (f : Fd) (W : World) (h : Below w.heap.size w W) => by
    have h1 := right_any b q f (l.take k) LA lc (by rw [List.length_take]; exact Nat.le_trans (Nat.min_le_right _ _) h9) cv rv fv av bv W (hw.deep h) hc20 hf20 ((hl.deep h).take k)
    rw [List.length_take, Nat.min_eq_left hk] at h1
    exact h1
  obtain ⟨K, hK⟩ : ∃ K, K = l.length := ⟨_, rfl⟩
  rw [← hK] at h9 hcap hri ⊢
  replace h9 : K ≤ 9223372036854775807 := h9
  have HR := Lib.hid hri; have HL := Lib.hid hl; have HK := Lib.hid hK
  clear hri hl hK hw hc20 hf20
  go_enter Try.func33, Try.ntmps33
  go_wp2
  go_loopg [7, 8, 9, 12] K (fun kx s7 s8 s9 s12 wr => ∃ (k : Nat) (x : Int), s7 = .int .i64 x ∧ s12 = .int .i64 (k : Int) ∧ k + kx = K ∧ Row wr w.heap.size 79 #[cv, rv, fv, av, bv] ∧ Below w.heap.size w wr ∧ Hid (provesB b q l n = (prL b q (l.take k) x (l.drop k) && decide (lastS x (l.drop k) = n))))
  case atStart => exact ⟨0, -1, rfl, rfl, by omega, Row.made _ _ _, below_alloc _ _, Lib.hid (by simp [provesB])⟩
  case round =>
    obtain ⟨k, x, rfl, rfl, hk, hv, hb, I⟩ := hrel
    by_cases hlt : k < K
    · obtain ⟨f, hf⟩ : ∃ y, l[k]? = some y := at_lt (by rw [← HK.out]; exact hlt)
      obtain ⟨bb, o, hA, hbb, e0, e1, e2, e3⟩ := (HL.out.deep hb) k f hf
      subst hA
      have hr := fun (W : World) (h : Below wr.heap.size wr W) => HR.out k (by omega) f W (below_step hb h)
      have hI := I.out
      obtain ⟨p1, p2⟩ := List.getElem?_eq_some_iff.1 hf
      rw [List.drop_eq_getElem_cons p1, p2, prL, lastS] at hI
      have ht : l.take k ++ [f] = l.take (k + 1) := by rw [List.take_add_one, hf]; rfl
      rw [ht] at hI
      obtain ⟨n0, h0, fa, cl⟩ := f
      unfold fdC at hr
      dsimp only at *
      generalize rightB b q (isL (l.take k)) (n0, h0, fa, cl) = b2 at *
      have d1 : decide (n0 ≤ x) = !decide (x < n0) := by by_cases h : x < n0 <;> simp [h] <;> omega
      generalize decide (x < n0) = b1 at *
      go_upto_region 5 with (fail)
      obtain ⟨W5, hW5⟩ : ∃ W5, W5 = wr.alloc (.cells #[.int .i64 n0, .bool h0, .int .i64 fa, .int .i64 cl] 63) := ⟨_, rfl⟩
      have hb5 : Below wr.heap.size wr W5 := by rw [hW5]; exact below_alloc _ _
      have hv5 := hv.step hb5
      obtain ⟨m0, m1, m2, m3⟩ := box4 (by rw [hW5]; exact Row.made wr _ _ : Row W5 wr.heap.size 63 _)
      obtain ⟨k0, k1, k2, k3, k4⟩ := box5 hv5
      rw [← hW5]
      have M0 := cell_regrown m0; have M1 := cell_regrown m1; have M2 := cell_regrown m2; have M3 := cell_regrown m3; have K0 := cell_regrown k0; have K1 := cell_regrown k1; have K2 := cell_regrown k2; have K3 := cell_regrown k3; have K4 := cell_regrown k4
      have HRR := Lib.hid hr; have HI := Lib.hid hI; have HV := Lib.hid hv5; have HB := Lib.hid (below_step hb hb5); have HB5 := Lib.hid hb5
      clear hr hI hv5 hv hb hb5 m0 m1 m2 m3 k0 k1 k2 k3 k4 e0 e1 e2 e3 I p1 p2 hf ht hW5
      refine three b1 b2 true (fun h1 => ?_) (fun h1 h2 => ?_) (fun h1 h2 h3 => ?_) (fun h1 h2 h3 => ?_)
      · subst h1
        refine wp_region_quiet_below (by kernel_rfl) (by kernel_rfl) ?_
        repeat (go_big_quiet_step (first | (go_at_call 49; with_reducible exact Calls.regrown_of (HRR.out _ (below_step HB5.out (below_regrown _ _ _)))) | fail))
        refine wpQuiet_nil ?_; intro _ hw'; obtain ⟨⟨dq, osq⟩, hw''⟩ := hw'; subst hw''
        go_wp2
        go_ret
        exact ⟨by rw [HI.out]; simp, below_step HB.out (below_regrown _ _ _)⟩
      · subst h1 h2
        refine wp_region_quiet_below (by kernel_rfl) (by kernel_rfl) ?_
        repeat (go_big_quiet_step (first | (go_at_call 49; with_reducible exact Calls.regrown_of (HRR.out _ (below_step HB5.out (below_regrown _ _ _)))) | fail))
        refine wpQuiet_nil ?_; intro _ hw'; obtain ⟨⟨dq, osq⟩, hw''⟩ := hw'; subst hw''
        go_wp2
        go_ret
        exact ⟨by rw [HI.out]; simp, below_step HB.out (below_regrown _ _ _)⟩
      · cases h3
      · subst h1 h2
        refine wp_region_quiet_below (by kernel_rfl) (by kernel_rfl) ?_
        repeat (go_big_quiet_step (first | (go_at_call 49; with_reducible exact Calls.regrown_of (HRR.out _ (below_step HB5.out (below_regrown _ _ _)))) | fail))
        refine wpQuiet_nil ?_; intro _ hw'; obtain ⟨⟨dq, osq⟩, hw''⟩ := hw'; subst hw''
        have M0' := M0 dq osq
        have nv := HV.out.step (below_regrown W5 dq osq)
        have nb := below_step HB.out (below_regrown W5 dq osq)
        generalize Sort.grow (redrawn W5 dq) osq = W6 at *
        have NV := Lib.hid nv; have NB := Lib.hid nb
        clear nv nb M0 M1 M2 M3 K0 K1 K2 K3 K4
        go_wp2
        go_roundg (K - (k + 1))
        case measure => omega
        case rel => exact ⟨k + 1, n0, rfl, by go_num, by omega, NV.out, NB.out, Lib.hid (by rw [HI.out]; simp)⟩
    · have hI := I.out
      rw [List.drop_of_length_le (by rw [← HK.out]; omega), prL, lastS] at hI
      have d1 : (x == n) = decide (x = n) := by by_cases h : x = n <;> simp [h]
      generalize decide (x = n) = d at *
      have HI := Lib.hid hI; have HB := Lib.hid hb
      clear hI I hv hb
      go_wp2
      go_ret
      exact ⟨by rw [HI.out]; simp, HB.out⟩
end Go.Proofs.Ytiglkecmamnphaa
