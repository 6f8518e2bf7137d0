/- BentProof: some list, whatever was changed. -/
import Derived.Test.YtddeegfdbnmemaaPx
import Derived.Test.YtddeegfdbnmemaaSq
import Derived.ArgAppend
namespace Go.Proofs.Ytddeegfdbnmemaa
open Go.RowKit Go.Sort Go.Lib

theorem fl_upd {l : List Fd} {k : Nat} {x y : Fd} {j : Nat} {v : Value} (hx : l[k]? = some x) (hj : j < 4) (he : fdL y = (fdL x).set j v) : (flG fdL l).set (k * 4 + j) v = flG fdL (l.set k y) := flG_set fdL_len l k j x y v hx hj he
theorem own_upd {W : World} {B g n c k j : Nat} {l : List Fd} {x y : Fd} {v : Value} (h : W.ownsRow B 63 4 (.slice (some ⟨g, 0, none⟩) n c) n (flG fdL l)) (hx : l[k]? = some x) (hj : j < 4) (he : fdL y = (fdL x).set j v) : (W.setCell ⟨g, k * 4 + j, none⟩ v).ownsRow B 63 4 (.slice (some ⟨g, 0, none⟩) n c) n (flG fdL (l.set k y)) := by
  have := (h.stored (k * 4 + j) v).1
  rwa [fl_upd hx hj he] at this
theorem run_append_cut (w : World) (ty : TypeId) (g k m c : Nat) (b : Addr) (l news : List Fd) (hl : l.length = k) (hm : news.length = m) (hk : k + m ≤ 1000) (hA : FdsC w (some ⟨g, 0, none⟩) l) (hN : FdsC w (some b) news) :
    ∃ A c' w', (Builtin.append_ #[28, 28] ty #[.slice (some ⟨g, 0, none⟩) k k, .slice (some b) m c]).run Try.prog w = .ok (.slice A (k + m) c') w' ∧ FdsC w' A (l ++ news) ∧ k + m ≤ c' ∧ Below w.heap.size w w' := by
  obtain ⟨i0, hi, hz0, hz1, hz2⟩ := info_parts fd_info
  cases m with
  | zero =>
    have : news = [] := List.eq_nil_of_length_eq_zero hm
    subst this
    have hr : (Builtin.append_ #[28, 28] ty #[.slice (some ⟨g, 0, none⟩) k k, .slice (some b) 0 c]).run Try.prog w = .ok (.slice (some ⟨g, 0, none⟩) k k) w := by
      simp [Builtin.append_, run_underlying Try.underlying28, sizeOf, typeInfo, hi, Builtin.lenOf, Builtin.firstCells, storeCells, loadCells, loadCellsFrom]
    exact ⟨some ⟨g, 0, none⟩, k, w, hr, by simpa using hA, Nat.le_refl _, Below.refl _ _⟩
  | succ m =>
    have cl : ∀ (A : Addr) (x : List Fd), FdsC w (some A) x → ∀ j u, (flG fdL x)[j]? = some u → w.cell? (A.add j) = some u := by
      intro A x hx j u hj
      have hlt : j < x.length * 4 := by
        rw [← flG_len fdL_len]
        exact (List.getElem?_eq_some_iff.1 hj).1
      obtain ⟨r, hr⟩ : ∃ r, x[j / 4]? = some r := at_lt (by omega)
      have hf := flG_at fdL_len x (j / 4) (j % 4) r hr (Nat.mod_lt _ (by omega))
      rw [show j / 4 * 4 + j % 4 = j by omega, hj] at hf
      obtain ⟨b', o, hA, _, cc⟩ := (fds_cells hx).get (i := j / 4) (C := (fdL r).toArray) (by rw [List.getElem?_map, hr]; rfl)
      cases hA
      have e : (⟨b', o, none⟩ : Addr).add j = ⟨b', o + j, none⟩ := by unfold Addr.add; split <;> simp_all
      rw [e]
      have := cc (j % 4) u (by simpa using hf.symm)
      rwa [Nat.add_assoc, show j / 4 * 4 + j % 4 = j by omega] at this
    obtain ⟨v', w', hr, ho, hg⟩ := run_append_arg_grows (P := Try.prog) w 28 ty 63 i0 _ 4 32 Try.underlying28 hi hz0 hz1 hz2 rfl (by decide) ⟨g, 0, none⟩ k k (flG fdL l) (by rw [flG_len fdL_len, hl]) (cl _ _ hA) b (m + 1) c (flG fdL news) (by rw [flG_len fdL_len, hm]) (cl _ _ hN) (by omega) (by unfold maxLen; omega) (by omega)
    rw [← flG_app] at ho
    obtain ⟨A, c', rfl⟩ := own_len ho
    refine ⟨A, c', w', hr, own_fds (by rw [List.length_append, hl, hm]) ho, own_cap ho, ⟨hg.os, hg.tape, hg.output, hg.size, fun i hi' => hg.block i hi' (by simp)⟩⟩
theorem step_append_run {w : World} {ops : Array Oper} {o : Oper} {a : Act} {K : Act → World → Prop} {Q : Exit → Act → World → Prop} {E : Prop} {t : TypeId} (hgd : o.guard = none) (s x : Operand)
    (ho : o.op = .call { callee := .builtin .append, args := #[s, x], argTypes := #[t, t] }) (v u : Value) (hs : a.eval s = v) (hx : a.eval x = u) {v' : Value} {w' : World}
    (hr : (Builtin.append_ #[t, t] o.type #[v, u]).run Try.prog w = .ok v' w') (h : K (a.put o.dst v') w') : if Region.wanted o (yielded ops a.tmps) = true then Oper.wp Try.prog o a w K Q else E := by
  have hw : Region.wanted o (yielded ops a.tmps) = true := by simp [Region.wanted, hgd]
  rw [if_pos hw]
  unfold Oper.wp execOp
  simp only [ho, resolve, invoke, builtin, Sem.run_bind, Sem.run_pure, Result.andThen_ok, List.map_toArray, List.map_cons, List.map_nil, hs, hx, hr]
  exact h
theorem Below.grown0 {w X Y : World} {B n : Nat} {v : Value} {xs : List Value} (h : Below w.heap.size w X) (ho : X.ownsRow w.heap.size 63 4 v n xs) (hg : X.grownBy Y v.ownBlock) : Below w.heap.size w Y := keep_grown h hg ho

set_option maxRecDepth 100000 in
set_option maxHeartbeats 16000000 in
theorem bent_any (l : List Fd) (LA : Option Addr) (lc : Nat) (how n at_ : Int) (ih : In64 how) (ia : In64 at_) (h9 : l.length ≤ 100) (w : World) (hl : FdsC w LA l) :
    Calls Try.prog 14 #[.slice LA l.length lc, .int .i64 how, .int .i64 n, .int .i64 at_] w fun e w' => ∃ (A : Option Addr) (m c : Nat) (L : List Fd), e = .returned (.slice A m c) ∧ (L.length = m ∧ m ≤ l.length + 1 ∧ m ≤ c) ∧ FdsC w' A L ∧ Below w.heap.size w w' := by
  obtain ⟨N, hN⟩ : ∃ N, N = l.length := ⟨_, rfl⟩
  rw [← hN] at h9 ⊢
  have hcells := fun (W : World) (hb : Below w.heap.size w W) => fds_cells (hl.deep hb)
  have z1 : ∀ y ∈ l, ∀ u ∈ fdL y, u.oneCell' = true := fun y _ => fd_one y
  have p6 := fun W => rpick_any how 6 ih.1 ih.2 (by omega) (by omega) W
  have r6 := pk_range (c := how) (n := 6) (by omega)
  generalize pk how 6 = hw at *
  have HN := Lib.hid hN; have HC := Lib.hid hcells; have Z1 := Lib.hid z1; have P6 := Lib.hid p6; have IA := Lib.hid ia; have R6 := Lib.hid r6
  clear hN hcells z1 p6 hl ih ia r6
  have e0 := own_e (e := 63) (k := 4) (enc := fdL) w w.heap.size (Nat.le_refl _)
  have bE : Below w.heap.size w (w.alloc (.cells #[] 63)) := below_alloc _ _
  have E0 := Lib.hid e0; have BE := Lib.hid bE
  clear e0 bE
  go_enter Try.func14, Try.ntmps14
  go_upto_region 2 with (at_builtin; refine wpList_append_G (enc := fdL) fdL_len Try.underlying28 fd_info rfl (by decide) (by decide) rfl _ _ (by rfl) w.heap.size _ 0 [] (by rfl) E0.out _ N lc l (by rfl) HN.out Z1.out (HC.out _ BE.out) (by omega) BE.out.size ?_; intro v1 w1 o1 g1; have B1 := Lib.hid (keep_grown BE.out g1 E0.out); rw [Nat.zero_add, List.nil_append] at o1; have O1 := Lib.hid o1; clear g1 o1)
  clear E0 BE
  by_cases hN0 : N = 0
  · subst hN0
    have hl0 : l = [] := List.eq_nil_of_length_eq_zero HN.out.symm
    have O2 : Hid (w1.ownsRow w.heap.size 63 4 v1 0 (flG fdL [])) := Lib.hid (by have := O1.out; rwa [hl0] at this)
    clear hl0 O1 HC
    obtain ⟨VA, vc, rfl⟩ := own_len O2.out
    go_wp2_with (at_builtin; refine wpList_append_G (enc := fdL) fdL_len Try.underlying28 fd_info rfl (by decide) (by decide) rfl _ _ (by rfl) w.heap.size _ 0 [] (by rfl) (O2.out.alloc _) (some ⟨w1.heap.size, 0, none⟩) 1 1 [(n, false, -1, -1)] (by rfl) rfl (fun y _ => fd_one y) (fds_cells (fds_lit w1 [(n, false, -1, -1)] (show (1 : Nat) ≤ maxLen by decide))) (by omega) (Below.size (keep_alloc B1.out _)) ?_; intro v2 w2 o2 g2; have B2 := Lib.hid (keep_grown (keep_alloc B1.out _) g2 (O2.out.alloc _)); have O3 := Lib.hid o2; clear g2 o2)
    go_ret
    obtain ⟨A, c, rfl⟩ := own_len O3.out
    exact ⟨A, _, c, _, rfl, ⟨rfl, by omega, own_cap O3.out⟩, own_fds rfl O3.out, B2.out⟩
  · obtain ⟨M, rfl⟩ : ∃ M, N = M + 1 := ⟨N - 1, by omega⟩
    obtain ⟨g, cap, rfl⟩ := ownsRow_succ O1.out
    have pa := fun W => rpick_any at_ ((M : Int) + 1) IA.out.1 IA.out.2 (by omega) (by omega) W
    have ra := pk_range (c := at_) (n := (M : Int) + 1) (by omega)
    generalize pk at_ ((M : Int) + 1) = k at *
    obtain ⟨k, rfl⟩ := Int.eq_ofNat_of_zero_le ra.1
    have hkM : k < M + 1 := by omega
    obtain ⟨⟨x0, x1, x2, x3⟩, hx⟩ : ∃ x, l[k]? = some x := at_lt (by rw [← HN.out]; exact hkM)
    have hfl : ∀ j, j < 4 → (flG fdL l)[k * 4 + j]? = (fdL (x0, x1, x2, x3))[j]? := fun j hj => flG_at fdL_len l k j _ hx hj
    have cc : ∀ j v, j < 4 → (fdL (x0, x1, x2, x3))[j]? = some v → w1.cell? ⟨g, k * 4 + j, none⟩ = some v ∧ w1.frozen? ⟨g, k * 4 + j, none⟩ = false := fun j v hj hv => ⟨by rw [O1.out.cellAt (k * 4 + j) (by omega), hfl j hj, hv], O1.out.frozenAt _⟩
    obtain ⟨c0, f0⟩ := cc 0 _ (by omega) rfl
    obtain ⟨c1, f1⟩ := cc 1 _ (by omega) rfl
    obtain ⟨c2, f2⟩ := cc 2 _ (by omega) rfl
    obtain ⟨c3, f3⟩ := cc 3 _ (by omega) rfl
    rw [Nat.add_zero] at c0 f0
    have hcap := own_cap O1.out
    have hgb := (O1.out.lt g rfl).1
    have PA := Lib.hid pa; have HX := Lib.hid hx
    clear pa hfl cc hx ra
    have h1 : ((M : Int) + 1 == 0) = false := by simp; omega
    have h2 : (k : Int) < (M : Int) + 1 := by omega
    have hr6 := R6.out
    have ends : ∀ (y : Fd) (j : Nat) (v : Value), j < 4 → fdL y = (fdL (x0, x1, x2, x3)).set j v → ∃ (A : Option Addr) (m c : Nat) (L : List Fd), (Ending.returned (.slice (some ⟨g, 0, none⟩) (M + 1) cap) : Ending) = .returned (.slice A m c) ∧ (L.length = m ∧ m ≤ M + 1 + 1 ∧ m ≤ c) ∧ FdsC (w1.setCell ⟨g, k * 4 + j, none⟩ v) A L ∧ Below w.heap.size w (w1.setCell ⟨g, k * 4 + j, none⟩ v) := fun y j v hj he => by
      have hlen : (l.set k y).length = M + 1 := by rw [List.length_set, ← HN.out]
      refine ⟨_, _, _, l.set k y, rfl, ⟨hlen, by omega, hcap⟩, own_fds hlen.symm (own_upd O1.out HX.out hj he), B1.out.setCell (p := ⟨g, k * 4 + j, none⟩) hgb v⟩
    have END := Lib.hid ends
    clear ends
    rcases (show hw = 0 ∨ hw = 1 ∨ hw = 2 ∨ hw = 3 ∨ hw = 4 ∨ hw = 5 by omega) with rfl | rfl | rfl | rfl | rfl | rfl
    · clear R6 hr6
      go_wp2_with (first | (go_at_call 27; (with_reducible refine (PA.out _).mono ?_); rintro e wx ⟨rfl, hwx⟩; have hwx := hwx.symm; subst hwx) | (go_at_call 27; (with_reducible refine (P6.out _).mono ?_); rintro e wx ⟨rfl, hwx⟩; have hwx := hwx.symm; subst hwx) | fail)
      go_ret
      exact END.out (n, x1, x2, x3) 0 _ (by omega) rfl
    · clear R6 hr6
      go_wp2_with (first | (go_at_call 27; (with_reducible refine (PA.out _).mono ?_); rintro e wx ⟨rfl, hwx⟩; have hwx := hwx.symm; subst hwx) | (go_at_call 27; (with_reducible refine (P6.out _).mono ?_); rintro e wx ⟨rfl, hwx⟩; have hwx := hwx.symm; subst hwx) | fail)
      go_ret
      exact END.out (x0, !x1, x2, x3) 1 _ (by omega) rfl
    · clear R6 hr6
      go_wp2_with (first | (go_at_call 27; (with_reducible refine (PA.out _).mono ?_); rintro e wx ⟨rfl, hwx⟩; have hwx := hwx.symm; subst hwx) | (go_at_call 27; (with_reducible refine (P6.out _).mono ?_); rintro e wx ⟨rfl, hwx⟩; have hwx := hwx.symm; subst hwx) | fail)
      go_ret
      exact END.out (x0, x1, n, x3) 2 _ (by omega) rfl
    · clear R6 hr6
      go_wp2_with (first | (go_at_call 27; (with_reducible refine (PA.out _).mono ?_); rintro e wx ⟨rfl, hwx⟩; have hwx := hwx.symm; subst hwx) | (go_at_call 27; (with_reducible refine (P6.out _).mono ?_); rintro e wx ⟨rfl, hwx⟩; have hwx := hwx.symm; subst hwx) | fail)
      go_ret
      exact END.out (x0, x1, x2, n) 3 _ (by omega) rfl
    · clear R6 hr6
      have fa := (HC.out _ (Below.refl _ _))
      have hfd : FdsC w1 (some ⟨g, 0, none⟩) l := own_fds HN.out O1.out
      have hdl : (l.drop (k + 1)).length = M - k := by rw [List.length_drop, ← HN.out]; omega
      have htl : (l.take k).length = k := by rw [List.length_take, ← HN.out]; omega
      have rest : ∀ (b : Addr) (hb : FdsC w1.drew (some b) (l.drop (k + 1))) (ty : TypeId) (c : Nat), ∃ A c' w', (Builtin.append_ #[28, 28] ty #[.slice (some ⟨g, 0, none⟩) k k, .slice (some b) (M - k) c]).run Try.prog w1.drew = .ok (.slice A (k + (M - k)) c') w' ∧ FdsC w' A (l.take k ++ l.drop (k + 1)) ∧ k + (M - k) ≤ c' ∧ Below w1.drew.heap.size w1.drew w' := fun b hb ty c =>
        run_append_cut w1.drew ty g k _ c b _ _ htl hdl (by omega) ((hfd.deep (Below.refl _ _).drew).take k) hb
      have kn1 : (k : Int) ≤ (cap : Int) := by omega
      have kn2 : (k : Int) + 1 ≤ (M : Int) + 1 := by omega
      have kn0 : (0 : Int) ≤ (k : Int) + 1 := by omega
      have nci : (M : Int) + 1 ≤ (cap : Int) := by omega
      have kw : IntKind.i64.wrap ((k : Int) + 1) = (k : Int) + 1 := IntWalk.i64_in _ (by omega)
      by_cases hck : cap = k + 1
      · obtain rfl : M = k := by omega
        subst hck
        have hnil : l.drop (M + 1) = [] := by rw [List.drop_eq_nil_iff, ← HN.out]; omega
        replace kn1 : (M : Int) ≤ (M : Int) + 1 := by omega
        rw [Nat.sub_self, Nat.add_zero] at rest
        rw [Nat.sub_self] at hdl
        obtain ⟨A, c', w5, hrun, hf5, hc5, hb5⟩ := rest ⟨g, 0, none⟩ (by rw [hnil]; intro i x hx; simp at hx) 28 0
        have FIN := Lib.hid (And.intro hf5 (And.intro hc5 hb5)); have HRUN := Lib.hid hrun; have HTL := Lib.hid (And.intro htl hdl)
        clear rest hfd hdl htl fa hf5 hc5 hb5 hrun hnil nci kn2
        go_upto_region 16 with (first | (go_at_call 27; (with_reducible refine (PA.out _).mono ?_); rintro e wx ⟨rfl, hwx⟩; have hwx := hwx.symm; subst hwx) | (go_at_call 27; (with_reducible refine (P6.out _).mono ?_); rintro e wx ⟨rfl, hwx⟩; have hwx := hwx.symm; subst hwx) | fail)
        go_region_held3 (fun W => True) (first | trivial | fail) (first | (refine step_append_run rfl _ _ (by rfl) _ _ (by rfl) (by rfl) HRUN.out ?_) | fail)
        go_wp2
        go_ret
        exact ⟨A, _, c', _, rfl, ⟨by rw [List.length_append, HTL.out.1, HTL.out.2]; try rfl, by omega, FIN.out.2.1⟩, FIN.out.1, below_step B1.out (below_step (Below.refl _ _).drew FIN.out.2.2)⟩
      · have hfr := hfd.deep (Below.refl w1.heap.size w1).drew
        obtain ⟨A, c', w5, hrun, hf5, hc5, hb5⟩ := rest ⟨g, (k + 1) * 4, none⟩ (by have := hfr.drop (k + 1); rwa [Nat.zero_add] at this) 28 (cap - (k + 1))
        have FIN := Lib.hid (And.intro hf5 (And.intro hc5 hb5)); have HRUN := Lib.hid hrun; have HTL := Lib.hid (And.intro htl hdl)
        clear rest hfd hdl htl fa hf5 hc5 hb5 hrun hfr
        go_upto_region 16 with (first | (go_at_call 27; (with_reducible refine (PA.out _).mono ?_); rintro e wx ⟨rfl, hwx⟩; have hwx := hwx.symm; subst hwx) | (go_at_call 27; (with_reducible refine (P6.out _).mono ?_); rintro e wx ⟨rfl, hwx⟩; have hwx := hwx.symm; subst hwx) | fail)
        go_region_held3 (fun W => True) (first | trivial | fail) (first | (refine step_append_run rfl _ _ (by rfl) _ _ (by rfl) (by rfl) HRUN.out ?_) | fail)
        go_wp2
        go_ret
        exact ⟨A, _, c', _, rfl, ⟨by rw [List.length_append, HTL.out.1, HTL.out.2]; try rfl, by omega, FIN.out.2.1⟩, FIN.out.1, below_step B1.out (below_step (Below.refl _ _).drew FIN.out.2.2)⟩
    · clear R6 hr6
      go_wp2_with (first | (go_at_call 27; (with_reducible refine (PA.out _).mono ?_); rintro e wx ⟨rfl, hwx⟩; have hwx := hwx.symm; subst hwx) | (go_at_call 27; (with_reducible refine (P6.out _).mono ?_); rintro e wx ⟨rfl, hwx⟩; have hwx := hwx.symm; subst hwx) | fail)
      go_ret
      have u0 := own_upd (y := (x0, x1, x2, x3)) (j := 0) (v := .int .i64 x0) O1.out HX.out (by omega) rfl
      have hlen : l.length = M + 1 := HN.out.symm
      have hk' : k < l.length := by omega
      have s0 : (l.set k (x0, x1, x2, x3))[k]? = some (x0, x1, x2, x3) := List.getElem?_set_self hk'
      have u1 := own_upd (y := (x0, true, x2, x3)) (j := 1) (v := .bool true) u0 s0 (by omega) rfl
      rw [List.set_set] at u1
      have s1 : (l.set k (x0, true, x2, x3))[k]? = some (x0, true, x2, x3) := List.getElem?_set_self hk'
      have u2 := own_upd (y := (x0, true, -1, x3)) (j := 2) (v := .int .i64 (-1)) u1 s1 (by omega) rfl
      rw [List.set_set] at u2
      have s2 : (l.set k (x0, true, -1, x3))[k]? = some (x0, true, -1, x3) := List.getElem?_set_self hk'
      have u3 := own_upd (y := (x0, true, -1, n)) (j := 3) (v := .int .i64 n) u2 s2 (by omega) rfl
      rw [List.set_set] at u3
      refine ⟨_, _, _, l.set k (x0, true, -1, n), rfl, ⟨by rw [List.length_set, hlen], by omega, hcap⟩, own_fds (by rw [List.length_set, hlen]) u3, ?_⟩
      exact (((B1.out.setCell (p := ⟨g, k * 4 + 0, none⟩) hgb _).setCell (p := ⟨g, k * 4 + 1, none⟩) hgb _).setCell (p := ⟨g, k * 4 + 2, none⟩) hgb _).setCell (p := ⟨g, k * 4 + 3, none⟩) hgb _
end Go.Proofs.Ytddeegfdbnmemaa
