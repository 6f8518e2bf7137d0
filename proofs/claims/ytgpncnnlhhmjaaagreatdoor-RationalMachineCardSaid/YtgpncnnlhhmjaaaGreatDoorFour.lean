/- four: the four results of two fractions. -/
import Derived.Test.YtgpncnnlhhmjaaaGreatDoorOrdM
import Derived.Deep.RegionHeld3
import Derived.Deep.MidRow
namespace Go.Proofs.YtgpncnnlhhmjaaaGreatDoor
open Go.RowKit

theorem row_range {w : World} {g : Nat} {t : TypeId} {l : List Value} (h : Row w g t l.toArray) : w.rangeAt g 0 l := fun j v hv => by
  rw [Nat.zero_add]
  exact h.at (by simpa using hv)
theorem row_there {w : World} {g : Nat} {t : TypeId} {C : Array Value} (h : Row w g t C) (n : Nat) (hn : n ≤ C.size) : w.there g 0 n := fun j hj => by
  rw [Nat.zero_add]
  refine ⟨?_, h.free j⟩
  rw [h.at (Array.getElem?_eq_getElem (show j < C.size by omega))]
  rfl
theorem below_cells {B g : Nat} {a : World} : ∀ (vs : List Value) (o : Nat) (W : World), B ≤ g → Below B a W → Below B a (W.setCells g o vs)
  | [], _, _, _, h => h
  | v :: vs, o, W, hg, h => below_cells vs (o + 1) _ hg (h.setCell (p := ⟨g, o, none⟩) hg v)
theorem ss_step {W : World} {gR gE z1 z2 b : Nat} {R E vs : List Value} (h : W.rangeAt gR 0 R ∧ W.rangeAt gE 0 E ∧ W.there z1 0 8 ∧ W.there z2 0 4) (h1 : gR ≠ b) (h2 : gE ≠ b) :
    (W.setCells b 0 vs).rangeAt gR 0 R ∧ (W.setCells b 0 vs).rangeAt gE 0 E ∧ (W.setCells b 0 vs).there z1 0 8 ∧ (W.setCells b 0 vs).there z2 0 4 :=
  ⟨World.rangeAt_setCells_apart h.1 _ _ _ (.inl h1), World.rangeAt_setCells_apart h.2.1 _ _ _ (.inl h2), World.there_setCells h.2.2.1 _ _ _, World.there_setCells h.2.2.2 _ _ _⟩
theorem res_four {fn : Func} {p q : Tmp} {tmps : Array Value} {w : World} {g g' : Nat} {x0 x1 x2 x3 x4 x5 x6 x7 z0 z1 z2 z3 : Value} (h : fn.results = #[.cell p 31, .cell q 33]) (hp : tmps.getD p undef = .pointer (some ⟨g, 0, none⟩)) (hq : tmps.getD q undef = .pointer (some ⟨g', 0, none⟩))
    (hr : w.rangeAt g 0 [x0, x1, x2, x3, x4, x5, x6, x7]) (he : w.rangeAt g' 0 [z0, z1, z2, z3]) : (results fn tmps).run Tryz.prog w = .ok (.tuple #[.agg #[x0, x1, x2, x3, x4, x5, x6, x7], .agg #[z0, z1, z2, z3]]) w := by
  have hl := run_loadVar_mid w g 0 31 _ _ hr Tryz.underlying31 rfl (by kernel_rfl)
  have hl2 := run_loadVar_mid w g' 0 33 _ _ he Tryz.underlying33 rfl (by kernel_rfl)
  have ha := asAddr_ptr (w := w) hp
  have ha2 := asAddr_ptr (w := w) hq
  simp only [results, h]
  simp [Sem.run_bind, Result.andThen, ha, ha2, hl, hl2, -Array.getD_eq_getD_getElem?]
/-- Memory while four runs. -/
structure Fr (w : World) (N1 D1 N2 D2 : ByteArray) (R E : Array Value) (W : World) : Prop where
  b : Below w.heap.size w W
  r1 : Row W w.heap.size 23 #[.string N1, .string D1]
  r2 : Row W (w.heap.size + 1) 23 #[.string N2, .string D2]
  z1 : Row W (w.heap.size + 1 + 1) 31 #[.string ⟨#[]⟩, .string ⟨#[]⟩, .string ⟨#[]⟩, .string ⟨#[]⟩, .string ⟨#[]⟩, .string ⟨#[]⟩, .string ⟨#[]⟩, .string ⟨#[]⟩]
  z2 : Row W (w.heap.size + 1 + 1 + 1) 33 #[.int .i64 0, .int .i64 0, .int .i64 0, .int .i64 0]
  r : Row W (w.heap.size + 1 + 1 + 1 + 1) 31 R
  e : Row W (w.heap.size + 1 + 1 + 1 + 1 + 1) 33 E
section
variable {w W X : World} {N1 D1 N2 D2 : ByteArray} {R E : Array Value}
theorem Fr.step (h : Fr w N1 D1 N2 D2 R E W) (hb : Below W.heap.size W X) : Fr w N1 D1 N2 D2 R E X := ⟨below_step h.b hb, h.r1.over hb, h.r2.over hb, h.z1.over hb, h.z2.over hb, h.r.over hb, h.e.over hb⟩
theorem Fr.put (h : Fr w N1 D1 N2 D2 R E W) (i j k : Nat) (a b v : Value) : Fr w N1 D1 N2 D2 ((R.setIfInBounds i a).setIfInBounds j b) (E.setIfInBounds k v) (((W.setCell ⟨w.heap.size + 1 + 1 + 1 + 1, i, none⟩ a).setCell ⟨w.heap.size + 1 + 1 + 1 + 1, j, none⟩ b).setCell ⟨w.heap.size + 1 + 1 + 1 + 1 + 1, k, none⟩ v) := by
  have far : ∀ {g t C}, Row W g t C → g < w.heap.size + 1 + 1 + 1 + 1 → Row (((W.setCell ⟨w.heap.size + 1 + 1 + 1 + 1, i, none⟩ a).setCell ⟨w.heap.size + 1 + 1 + 1 + 1, j, none⟩ b).setCell ⟨w.heap.size + 1 + 1 + 1 + 1 + 1, k, none⟩ v) g t C := fun hr hg => ((hr.aside (p := ⟨_, i, none⟩) (by show w.heap.size + 1 + 1 + 1 + 1 ≠ _; omega) a).aside (p := ⟨_, j, none⟩) (by show w.heap.size + 1 + 1 + 1 + 1 ≠ _; omega) b).aside (p := ⟨_, k, none⟩) (by show w.heap.size + 1 + 1 + 1 + 1 + 1 ≠ _; omega) v
  exact ⟨((h.b.setCell (p := ⟨_, i, none⟩) (by show w.heap.size ≤ w.heap.size + 1 + 1 + 1 + 1; omega) a).setCell (p := ⟨_, j, none⟩) (by show w.heap.size ≤ w.heap.size + 1 + 1 + 1 + 1; omega) b).setCell (p := ⟨_, k, none⟩) (by show w.heap.size ≤ w.heap.size + 1 + 1 + 1 + 1 + 1; omega) v, far h.r1 (by omega), far h.r2 (by omega), far h.z1 (by omega), far h.z2 (by omega),
    ((h.r.stored i a).stored j b).aside (p := ⟨_, k, none⟩) (by show w.heap.size + 1 + 1 + 1 + 1 + 1 ≠ _; omega) v, ((h.e.aside (p := ⟨_, i, none⟩) (by show w.heap.size + 1 + 1 + 1 + 1 ≠ _; omega) a).aside (p := ⟨_, j, none⟩) (by show w.heap.size + 1 + 1 + 1 + 1 ≠ _; omega) b).stored k v⟩
end

set_option maxRecDepth 1000000 in
set_option maxHeartbeats 20000000 in
theorem four_c (N1 D1 N2 D2 a0 a1 a2 a3 b0 b1 b2 b3 : ByteArray) (e0 e1 e2 e3 : Int)
    (h0 : Cl 38 #[rv N1 D1, rv N2 D2] (.tuple #[.agg #[.string a0, .string b0], .int .i64 e0])) (h1 : Cl 40 #[rv N1 D1, rv N2 D2] (.tuple #[.agg #[.string a1, .string b1], .int .i64 e1]))
    (h2 : Cl 39 #[rv N1 D1, rv N2 D2] (.tuple #[.agg #[.string a2, .string b2], .int .i64 e2])) (h3 : Cl 45 #[rv N1 D1, rv N2 D2] (.tuple #[.agg #[.string a3, .string b3], .int .i64 e3])) :
    Cl 15 #[rv N1 D1, rv N2 D2] (.tuple #[.agg #[.string a0, .string b0, .string a1, .string b1, .string a2, .string b2, .string a3, .string b3], .agg #[.int .i64 e0, .int .i64 e1, .int .i64 e2, .int .i64 e3]]) := by
  intro w ht
  obtain ⟨W0, hW0⟩ : ∃ W0, W0 = (((((w.alloc (.cells #[.string N1, .string D1] 23)).alloc (.cells #[.string N2, .string D2] 23)).alloc (.cells #[.string ⟨#[]⟩, .string ⟨#[]⟩, .string ⟨#[]⟩, .string ⟨#[]⟩, .string ⟨#[]⟩, .string ⟨#[]⟩, .string ⟨#[]⟩, .string ⟨#[]⟩] 31)).alloc (.cells #[.int .i64 0, .int .i64 0, .int .i64 0, .int .i64 0] 33)).alloc (.cells #[.string ⟨#[]⟩, .string ⟨#[]⟩, .string ⟨#[]⟩, .string ⟨#[]⟩, .string ⟨#[]⟩, .string ⟨#[]⟩, .string ⟨#[]⟩, .string ⟨#[]⟩] 31)).alloc (.cells #[.int .i64 0, .int .i64 0, .int .i64 0, .int .i64 0] 33) := ⟨_, rfl⟩
  have st : Fr w N1 D1 N2 D2 #[.string ⟨#[]⟩, .string ⟨#[]⟩, .string ⟨#[]⟩, .string ⟨#[]⟩, .string ⟨#[]⟩, .string ⟨#[]⟩, .string ⟨#[]⟩, .string ⟨#[]⟩] #[.int .i64 0, .int .i64 0, .int .i64 0, .int .i64 0] W0 := by
    rw [hW0]
    refine ⟨keep_alloc (keep_alloc (keep_alloc (keep_alloc (keep_alloc (below_alloc w _) _) _) _) _) _, (((((Row.made w _ _).later _).later _).later _).later _).later _, ((((Row.made_at _ _ _ (by simp)).later _).later _).later _).later _, (((Row.made_at _ _ _ (by simp)).later _).later _).later _, ((Row.made_at _ _ _ (by simp)).later _).later _, (Row.made_at _ _ _ (by simp)).later _, Row.made_at _ _ _ (by simp)⟩
  have T0 := Lib.hid ht; have H0 := Lib.hid h0; have H1 := Lib.hid h1; have H2 := Lib.hid h2; have H3 := Lib.hid h3; have S0 := Lib.hid st
  clear ht h0 h1 h2 h3 st
  go_enter Tryz.func15, Tryz.ntmps15
  go_upto_region 3 with (fail)
  rw [← hW0]
  clear hW0
  have r1a := (S0.out.r1.at (i := 0) rfl); have r1b := (S0.out.r1.at (i := 1) rfl); have r2a := (S0.out.r2.at (i := 0) rfl); have r2b := (S0.out.r2.at (i := 1) rfl)
  go_upto_region 4 with (go_at_call 38; (with_reducible refine (H0.out _ (T0.out.below S0.out.b)).mono ?_); rintro e w1 ⟨rfl, b1⟩; have s1 := S0.out.step b1; have S1 := Lib.hid s1; clear r1a r1b r2a r2b; have u0 := s1.r.at (i := 0) rfl; have u1 := s1.r.at (i := 1) rfl; have u2 := s1.e.at (i := 0) rfl; have v0 := s1.r.free 0; have v1 := s1.r.free 1; have v2 := s1.e.free 0; clear s1 b1)
  obtain ⟨WN, hWN⟩ : ∃ WN, WN = ((w1.setCell ⟨w.heap.size + 1 + 1 + 1 + 1, 0, none⟩ (.string a0)).setCell ⟨w.heap.size + 1 + 1 + 1 + 1, 1, none⟩ (.string b0)).setCell ⟨w.heap.size + 1 + 1 + 1 + 1 + 1, 0, none⟩ (.int .i64 e0) := ⟨_, rfl⟩
  rw [← hWN]
  have sn : Fr w N1 D1 N2 D2 #[.string a0, .string b0, .string ⟨#[]⟩, .string ⟨#[]⟩, .string ⟨#[]⟩, .string ⟨#[]⟩, .string ⟨#[]⟩, .string ⟨#[]⟩] #[.int .i64 e0, .int .i64 0, .int .i64 0, .int .i64 0] WN := by rw [hWN]; exact S1.out.put 0 1 0 (.string a0) (.string b0) (.int .i64 e0)
  replace S0 := Lib.hid sn
  clear sn hWN S1 u0 u1 u2 v0 v1 v2 H0
  have r1a := (S0.out.r1.at (i := 0) rfl); have r1b := (S0.out.r1.at (i := 1) rfl); have r2a := (S0.out.r2.at (i := 0) rfl); have r2b := (S0.out.r2.at (i := 1) rfl)
  go_upto_region 5 with (go_at_call 40; (with_reducible refine (H1.out _ (T0.out.below S0.out.b)).mono ?_); rintro e w1 ⟨rfl, b1⟩; have s1 := S0.out.step b1; have S1 := Lib.hid s1; clear r1a r1b r2a r2b; have u0 := s1.r.at (i := 2) rfl; have u1 := s1.r.at (i := 3) rfl; have u2 := s1.e.at (i := 1) rfl; have v0 := s1.r.free 2; have v1 := s1.r.free 3; have v2 := s1.e.free 1; clear s1 b1)
  obtain ⟨WN, hWN⟩ : ∃ WN, WN = ((w1.setCell ⟨w.heap.size + 1 + 1 + 1 + 1, 2, none⟩ (.string a1)).setCell ⟨w.heap.size + 1 + 1 + 1 + 1, 3, none⟩ (.string b1)).setCell ⟨w.heap.size + 1 + 1 + 1 + 1 + 1, 1, none⟩ (.int .i64 e1) := ⟨_, rfl⟩
  rw [← hWN]
  have sn : Fr w N1 D1 N2 D2 #[.string a0, .string b0, .string a1, .string b1, .string ⟨#[]⟩, .string ⟨#[]⟩, .string ⟨#[]⟩, .string ⟨#[]⟩] #[.int .i64 e0, .int .i64 e1, .int .i64 0, .int .i64 0] WN := by rw [hWN]; exact S1.out.put 2 3 1 (.string a1) (.string b1) (.int .i64 e1)
  replace S0 := Lib.hid sn
  clear sn hWN S1 u0 u1 u2 v0 v1 v2 H1
  have r1a := (S0.out.r1.at (i := 0) rfl); have r1b := (S0.out.r1.at (i := 1) rfl); have r2a := (S0.out.r2.at (i := 0) rfl); have r2b := (S0.out.r2.at (i := 1) rfl)
  go_upto_region 6 with (go_at_call 39; (with_reducible refine (H2.out _ (T0.out.below S0.out.b)).mono ?_); rintro e w1 ⟨rfl, b1⟩; have s1 := S0.out.step b1; have S1 := Lib.hid s1; clear r1a r1b r2a r2b; have u0 := s1.r.at (i := 4) rfl; have u1 := s1.r.at (i := 5) rfl; have u2 := s1.e.at (i := 2) rfl; have v0 := s1.r.free 4; have v1 := s1.r.free 5; have v2 := s1.e.free 2; clear s1 b1)
  obtain ⟨WN, hWN⟩ : ∃ WN, WN = ((w1.setCell ⟨w.heap.size + 1 + 1 + 1 + 1, 4, none⟩ (.string a2)).setCell ⟨w.heap.size + 1 + 1 + 1 + 1, 5, none⟩ (.string b2)).setCell ⟨w.heap.size + 1 + 1 + 1 + 1 + 1, 2, none⟩ (.int .i64 e2) := ⟨_, rfl⟩
  rw [← hWN]
  have sn : Fr w N1 D1 N2 D2 #[.string a0, .string b0, .string a1, .string b1, .string a2, .string b2, .string ⟨#[]⟩, .string ⟨#[]⟩] #[.int .i64 e0, .int .i64 e1, .int .i64 e2, .int .i64 0] WN := by rw [hWN]; exact S1.out.put 4 5 2 (.string a2) (.string b2) (.int .i64 e2)
  replace S0 := Lib.hid sn
  clear sn hWN S1 u0 u1 u2 v0 v1 v2 H2
  have r1a := (S0.out.r1.at (i := 0) rfl); have r1b := (S0.out.r1.at (i := 1) rfl); have r2a := (S0.out.r2.at (i := 0) rfl); have r2b := (S0.out.r2.at (i := 1) rfl)
  go_upto_region 7 with (go_at_call 45; (with_reducible refine (H3.out _ (T0.out.below S0.out.b)).mono ?_); rintro e w1 ⟨rfl, b1⟩; have s1 := S0.out.step b1; have S1 := Lib.hid s1; clear r1a r1b r2a r2b; have u0 := s1.r.at (i := 6) rfl; have u1 := s1.r.at (i := 7) rfl; have u2 := s1.e.at (i := 3) rfl; have v0 := s1.r.free 6; have v1 := s1.r.free 7; have v2 := s1.e.free 3; clear s1 b1)
  obtain ⟨WN, hWN⟩ : ∃ WN, WN = ((w1.setCell ⟨w.heap.size + 1 + 1 + 1 + 1, 6, none⟩ (.string a3)).setCell ⟨w.heap.size + 1 + 1 + 1 + 1, 7, none⟩ (.string b3)).setCell ⟨w.heap.size + 1 + 1 + 1 + 1 + 1, 3, none⟩ (.int .i64 e3) := ⟨_, rfl⟩
  rw [← hWN]
  have sn : Fr w N1 D1 N2 D2 #[.string a0, .string b0, .string a1, .string b1, .string a2, .string b2, .string a3, .string b3] #[.int .i64 e0, .int .i64 e1, .int .i64 e2, .int .i64 e3] WN := by rw [hWN]; exact S1.out.put 6 7 3 (.string a3) (.string b3) (.int .i64 e3)
  replace S0 := Lib.hid sn
  clear sn hWN S1 u0 u1 u2 v0 v1 v2 H3
  have hS : (fun W => W.rangeAt (w.heap.size + 1 + 1 + 1 + 1) 0 [.string a0, .string b0, .string a1, .string b1, .string a2, .string b2, .string a3, .string b3] ∧ W.rangeAt (w.heap.size + 1 + 1 + 1 + 1 + 1) 0 [.int .i64 e0, .int .i64 e1, .int .i64 e2, .int .i64 e3] ∧ W.there (w.heap.size + 1 + 1) 0 8 ∧ W.there (w.heap.size + 1 + 1 + 1) 0 4) WN.drew := ⟨row_range S0.out.r.drawn, row_range S0.out.e.drawn, row_there S0.out.z1.drawn 8 (by simp), row_there S0.out.z2.drawn 4 (by simp)⟩
  refine wp_region_held_drew (S := (fun W => W.rangeAt (w.heap.size + 1 + 1 + 1 + 1) 0 [.string a0, .string b0, .string a1, .string b1, .string a2, .string b2, .string a3, .string b3] ∧ W.rangeAt (w.heap.size + 1 + 1 + 1 + 1 + 1) 0 [.int .i64 e0, .int .i64 e1, .int .i64 e2, .int .i64 e3] ∧ W.there (w.heap.size + 1 + 1) 0 8 ∧ W.there (w.heap.size + 1 + 1 + 1) 0 4)) (by kernel_rfl) hS (fun hHeld => ?_)
  refine wpAnyH_take (i := 0) (oi := ⟨_, _, _, _, _, _⟩) (v := _) rfl (by kernel_rfl) (by kernel_rfl) (by kernel_rfl) (fun _ _ _ h => h) (yieldsIf_load_mid (by rfl) 31 _ rfl (w.heap.size + 1 + 1 + 1 + 1) 0 rfl [.string a0, .string b0, .string a1, .string b1, .string a2, .string b2, .string a3, .string b3] _ (fun _ h => h.1) Tryz.underlying31 rfl (by kernel_rfl)) (by assumption) ?_
  (try simp only [Act.put, List.setIfInBounds_toArray, List.set_cons_zero, List.set_cons_succ])
  refine wpAnyH_take (i := 1) (oi := ⟨_, _, _, _, _, _⟩) (v := _) rfl (by kernel_rfl) (by kernel_rfl) (by kernel_rfl) (fun _ _ _ h => h) (yieldsIf_load_mid (by rfl) 33 _ rfl (w.heap.size + 1 + 1 + 1 + 1 + 1) 0 rfl [.int .i64 e0, .int .i64 e1, .int .i64 e2, .int .i64 e3] _ (fun _ h => h.2.1) Tryz.underlying33 rfl (by kernel_rfl)) (by assumption) ?_
  (try simp only [Act.put, List.setIfInBounds_toArray, List.set_cons_zero, List.set_cons_succ])
  refine wpAnyH_ready (rs := [2]) (by kernel_rfl) (by simp) ?_
  refine AllReadyH.cons (o := ⟨_, _, _, _, _, _⟩) rfl (fun K hK => ?_) ?_
  · rw [if_pos (by rfl)]
    refine wp_store_mid 31 _ _ rfl (w.heap.size + 1 + 1) 0 [.string a0, .string b0, .string a1, .string b1, .string a2, .string b2, .string a3, .string b3].toArray rfl rfl hHeld.2.2.1 (by kernel_rfl) (all_oneCell_toArray (by intro u hu; simp only [List.mem_cons, List.not_mem_nil, or_false] at hu; rcases hu with rfl | rfl | rfl | rfl | rfl | rfl | rfl | rfl <;> rfl)) ?_
    have hA := hHeld
    generalize hW1 : WN.drew.setCells (w.heap.size + 1 + 1) 0 (([.string a0, .string b0, .string a1, .string b1, .string a2, .string b2, .string a3, .string b3] : List Value).toArray).toList = W1
    have s1 : (fun W => W.rangeAt (w.heap.size + 1 + 1 + 1 + 1) 0 [.string a0, .string b0, .string a1, .string b1, .string a2, .string b2, .string a3, .string b3] ∧ W.rangeAt (w.heap.size + 1 + 1 + 1 + 1 + 1) 0 [.int .i64 e0, .int .i64 e1, .int .i64 e2, .int .i64 e3] ∧ W.there (w.heap.size + 1 + 1) 0 8 ∧ W.there (w.heap.size + 1 + 1 + 1) 0 4) W1 := by
      subst hW1
      exact ss_step hA (by omega) (by omega)
    have q0 : W1.rangeAt (w.heap.size + 1 + 1) 0 [.string a0, .string b0, .string a1, .string b1, .string a2, .string b2, .string a3, .string b3] := by subst hW1; exact World.rangeAt_setCells_same WN.drew (w.heap.size + 1 + 1) 0 _ hA.2.2.1
    have hbl : Below w.heap.size w W1 := by subst hW1; exact below_cells _ _ _ (by omega) S0.out.b.drew
    refine hK.out _ _ s1 (fun hHeld => ?_)
    clear hW1 hA s1
    clear hK K
    (try simp only [Act.put, List.setIfInBounds_toArray, List.set_cons_zero, List.set_cons_succ])
    refine wpAnyH_ready (rs := [3]) (by kernel_rfl) (by simp) ?_
    refine AllReadyH.cons (o := ⟨_, _, _, _, _, _⟩) rfl (fun K hK => ?_) ?_
    · rw [if_pos (by rfl)]
      refine wp_store_mid 33 _ _ rfl (w.heap.size + 1 + 1 + 1) 0 [.int .i64 e0, .int .i64 e1, .int .i64 e2, .int .i64 e3].toArray rfl rfl hHeld.2.2.2 (by kernel_rfl) (all_oneCell_toArray (by intro u hu; simp only [List.mem_cons, List.not_mem_nil, or_false] at hu; rcases hu with rfl | rfl | rfl | rfl <;> rfl)) ?_
      have hB := hHeld
      generalize hW2 : W1.setCells (w.heap.size + 1 + 1 + 1) 0 (([.int .i64 e0, .int .i64 e1, .int .i64 e2, .int .i64 e3] : List Value).toArray).toList = W2
      have s2 : (fun W => W.rangeAt (w.heap.size + 1 + 1 + 1 + 1) 0 [.string a0, .string b0, .string a1, .string b1, .string a2, .string b2, .string a3, .string b3] ∧ W.rangeAt (w.heap.size + 1 + 1 + 1 + 1 + 1) 0 [.int .i64 e0, .int .i64 e1, .int .i64 e2, .int .i64 e3] ∧ W.there (w.heap.size + 1 + 1) 0 8 ∧ W.there (w.heap.size + 1 + 1 + 1) 0 4) W2 := by
        subst hW2
        exact ss_step hB (by omega) (by omega)
      have q1 : W2.rangeAt (w.heap.size + 1 + 1) 0 [.string a0, .string b0, .string a1, .string b1, .string a2, .string b2, .string a3, .string b3] := by subst hW2; exact World.rangeAt_setCells_apart q0 (w.heap.size + 1 + 1 + 1) 0 _ (.inl (by omega))
      have q2 : W2.rangeAt (w.heap.size + 1 + 1 + 1) 0 [.int .i64 e0, .int .i64 e1, .int .i64 e2, .int .i64 e3] := by subst hW2; exact World.rangeAt_setCells_same W1 (w.heap.size + 1 + 1 + 1) 0 _ hB.2.2.2
      have hb : Below w.heap.size w W2 := by subst hW2; exact below_cells _ _ _ (by omega) hbl
      refine hK.out _ _ s2 (fun hHeld => ?_)
      clear hW2 hB s2
      clear hK K
      (try simp only [Act.put, List.setIfInBounds_toArray, List.set_cons_zero, List.set_cons_succ])
      refine wpAnyH_done (by kernel_rfl) ?_ _
      clear hHeld hS S0 q0 hbl
      go_wp2
      refine bodyPost_ret (res_four rfl rfl rfl q1 q2) rfl ?_
      exact ⟨rfl, hb⟩
    · exact AllReadyH.nil
  · exact AllReadyH.nil
end Go.Proofs.YtgpncnnlhhmjaaaGreatDoor
