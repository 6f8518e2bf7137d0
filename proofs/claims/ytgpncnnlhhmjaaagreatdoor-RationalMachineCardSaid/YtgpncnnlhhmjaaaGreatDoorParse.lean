/- parse, parseBoth. -/
import Derived.Test.YtgpncnnlhhmjaaaGreatDoorValid
import Derived.Handy
import Derived.Laws.ResultCell
namespace Go.Proofs.YtgpncnnlhhmjaaaGreatDoor
open Go.RowKit

theorem lim_eq : lim = 10000 ^ 50 := by decide +kernel
theorem mag_facts (s : ByteArray) (h : validB s.data.toList = true) : (magB s).data.toList.all dig = true ∧ 0 < (magB s).size ∧ (magB s).size ≤ 200 ∧ val (magB s).data.toList = (numB s).natAbs ∧ negB s = decide (numB s < 0) := by
  have h0 := h
  rw [valid_eq] at h
  simp only [canN, Bool.and_eq_true, Bool.or_eq_true, beq_iff_eq, bne_iff_ne, decide_eq_true_eq, Bool.not_eq_true'] at h
  obtain ⟨⟨⟨h1, h2⟩, h3⟩, h4⟩ := h
  have hl : (magB s).data.toList.length = (magB s).size := Array.length_toList
  refine ⟨h1, ?_, h3, ?_, ?_⟩
  · rcases h2 with h5 | ⟨h5, _⟩
    · rw [h5] at hl; simp at hl; omega
    · have := List.length_pos_iff.2 h5; omega
  · show val (mag s.data.toList) = (num s.data.toList).natAbs
    unfold num; split <;> omega
  · have := num_itoa (numB s)
    have h6 := isNeg_itoa (numB s)
    unfold numB at h6 ⊢
    rw [itoa_num _ h0] at h6
    exact h6
theorem num_small (s : ByteArray) (h : validB s.data.toList = true) : (numB s).natAbs < 10000 ^ 50 := by
  have := num_fits s.data.toList h
  rw [← lim_eq]
  simpa [fits, numB] using this
theorem nt_50 {w : World} {B : Nat} {A : Option Addr} {L c n k : Nat} (h : Nt w B A L c n) (hn : n < 10000 ^ k) : L ≤ k := by rw [h.len, grp_len]; exact hn

theorem two_cells {w : World} {g : Nat} {t : TypeId} {a b : Value} (h : Row w g t #[a, b]) : w.cell? ⟨g, 0, none⟩ = some a ∧ w.cell? ⟨g, 1, none⟩ = some b ∧ w.frozen? ⟨g, 0, none⟩ = false ∧ w.frozen? ⟨g, 1, none⟩ = false := ⟨h.at rfl, h.at rfl, h.free 0, h.free 1⟩
theorem load_num {w : World} {g : Nat} {t : TypeId} {a b : Value} (h : Row w g t #[a, b]) : (loadVar 91 ⟨g, 0, none⟩).run Tryz.prog w = .ok (.agg #[a, b]) w := by
  obtain ⟨k0, k1, _, _⟩ := two_cells h
  simp [loadVar, go_sem, k0, k1]
section
variable {fn : Func} {p q u : Tmp} {tmps : Array Value} {w : World} {g g' : Nat} {t t' : TypeId} {a b a' b' : Value}
theorem asAddr_ptr (hp : tmps.getD p undef = .pointer (some ⟨g, 0, none⟩)) : (asAddr (tmps.getD p undef)).run Tryz.prog w = .ok ⟨g, 0, none⟩ w := by rw [hp]; rfl
theorem res_c (h : fn.results = #[.cell p 91]) (hp : tmps.getD p undef = .pointer (some ⟨g, 0, none⟩)) (hr : Row w g t #[a, b]) : (results fn tmps).run Tryz.prog w = .ok (.agg #[a, b]) w := by
  have hl := load_num hr
  have ha := asAddr_ptr (w := w) hp
  simp only [results, h]
  simp only [List.size_toArray, List.length_cons, List.length_nil, Nat.reduceAdd, List.mapM_toArray, List.mapM_cons, List.mapM_nil]
  simp [Sem.run_bind, Result.andThen, ha, hl, -Array.getD_eq_getD_getElem?]
theorem res_cc (h : fn.results = #[.cell p 91, .cell q 91]) (hp : tmps.getD p undef = .pointer (some ⟨g, 0, none⟩)) (hq : tmps.getD q undef = .pointer (some ⟨g', 0, none⟩)) (hr : Row w g t #[a, b]) (hr' : Row w g' t' #[a', b']) : (results fn tmps).run Tryz.prog w = .ok (.tuple #[.agg #[a, b], .agg #[a', b']]) w := by
  have hl := load_num hr
  have ha := asAddr_ptr (w := w) hp
  have hl' := load_num hr'
  have ha' := asAddr_ptr (w := w) hq
  simp only [results, h]
  simp [Sem.run_bind, Result.andThen, ha, hl, ha', hl', -Array.getD_eq_getD_getElem?]
theorem res_cct (h : fn.results = #[.cell p 91, .cell q 91, .tmp u]) (hp : tmps.getD p undef = .pointer (some ⟨g, 0, none⟩)) (hq : tmps.getD q undef = .pointer (some ⟨g', 0, none⟩)) (hr : Row w g t #[a, b]) (hr' : Row w g' t' #[a', b']) : (results fn tmps).run Tryz.prog w = .ok (.tuple #[.agg #[a, b], .agg #[a', b'], tmps.getD u undef]) w := by
  have hl := load_num hr
  have ha := asAddr_ptr (w := w) hp
  have hl' := load_num hr'
  have ha' := asAddr_ptr (w := w) hq
  simp only [results, h]
  simp [Sem.run_bind, Result.andThen, ha, hl, ha', hl', -Array.getD_eq_getD_getElem?]
theorem res_ct (h : fn.results = #[.cell p 91, .tmp u]) (hp : tmps.getD p undef = .pointer (some ⟨g, 0, none⟩)) (hr : Row w g t #[a, b]) : (results fn tmps).run Tryz.prog w = .ok (.tuple #[.agg #[a, b], tmps.getD u undef]) w := by
  have hl := load_num hr
  rw [results_cell_tmp h]
  simp [hp, hl, asAddr, Sem.run_pure]
end
/-- A store into a cell of another kind than int leaves a natural as it is. -/
theorem Nt.aside {w : World} {B : Nat} {A : Option Addr} {L c n g j : Nat} (h : Nt w B A L c n) (v : Value) (hn : ∀ x, w.cell? ⟨g, j, none⟩ ≠ some (.int .i64 x)) : Nt (w.setCell ⟨g, j, none⟩ v) B A L c n := by
  refine ⟨h.len, h.cap, h.top, ?_⟩
  rcases h.ints with e | ⟨b, o, e, hb, hc⟩
  · exact .inl e
  · refine .inr ⟨b, o, e, hb, fun i x hi => ?_⟩
    have h1 := hc i x hi
    rw [World.cell?_setCell_other _ _ _ _ (fun e => hn x (by rw [← h1, e]))]
    exact h1
theorem Nt.put2 {w : World} {B : Nat} {A : Option Addr} {L c n g : Nat} {t : TypeId} {p : Bool} {A0 : Option Addr} {L0 c0 : Nat} (h : Nt w B A L c n) (hr : Row w g t #[.bool p, .slice A0 L0 c0]) (p' : Bool) (A' : Option Addr) (L' c' : Nat) :
    Nt ((w.setCell ⟨g, 0, none⟩ (.bool p')).setCell ⟨g, 1, none⟩ (.slice A' L' c')) B A L c n := by
  have h1 := h.aside (g := g) (j := 0) (.bool p') (fun x e => by rw [hr.at (i := 0) (v := .bool p) rfl] at e; cases e)
  exact h1.aside (.slice A' L' c') (fun x e => by rw [(hr.stored 0 (.bool p')).at (i := 1) (v := .slice A0 L0 c0) rfl] at e; cases e)
/-- A number's row, with new contents. -/
theorem num_put {w : World} {g : Nat} {t : TypeId} {p : Bool} {A0 : Option Addr} {L0 c0 : Nat} (hr : Row w g t #[.bool p, .slice A0 L0 c0]) (p' : Bool) (A' : Option Addr) (L' c' : Nat) :
    Row ((w.setCell ⟨g, 0, none⟩ (.bool p')).setCell ⟨g, 1, none⟩ (.slice A' L' c')) g t #[.bool p', .slice A' L' c'] := (hr.stored 0 (.bool p')).stored 1 (.slice A' L' c')
theorem num_far {w : World} {g g' : Nat} {t : TypeId} {C : Array Value} (hr : Row w g t C) (hg : g' ≠ g) (v v' : Value) : Row ((w.setCell ⟨g', 0, none⟩ v).setCell ⟨g', 1, none⟩ v') g t C := (hr.aside (p := ⟨g', 0, none⟩) hg v).aside (p := ⟨g', 1, none⟩) hg v'
theorem Nt.drawn {w : World} {B : Nat} {A : Option Addr} {L c n : Nat} (h : Nt w B A L c n) : Nt w.drew B A L c n := ⟨h.len, h.cap, h.top, h.ints⟩
theorem Nt.drawnN {w : World} {B : Nat} {A : Option Addr} {L c n : Nat} (h : Nt w B A L c n) (k : Nat) : Nt (w.drewN k) B A L c n := ⟨h.len, h.cap, h.top, h.ints⟩
theorem below_put {B : Nat} {a w : World} {g : Nat} (h : Below B a w) (hg : B ≤ g) (v v' : Value) : Below B a ((w.setCell ⟨g, 0, none⟩ v).setCell ⟨g, 1, none⟩ v') := (h.setCell (p := ⟨g, 0, none⟩) hg v).setCell (p := ⟨g, 1, none⟩) hg v'
theorem put_size (w : World) (g : Nat) (v v' : Value) : ((w.setCell ⟨g, 0, none⟩ v).setCell ⟨g, 1, none⟩ v').heap.size = w.heap.size := by simp [World.setCell]
/-- A number's zero value. -/
def zN : Array Value := #[.bool false, .slice none 0 0]

set_option maxRecDepth 100000 in
set_option maxHeartbeats 8000000 in
theorem parse_bad (s : ByteArray) (hv : validB s.data.toList = false) (w : World) :
    Calls Tryz.prog 101 #[.string s] w fun e w' => e = .returned (.tuple #[.agg #[.bool false, .slice none 0 0], .bool false]) ∧ Below w.heap.size w w' := by
  have cV := fun W => valid_any s W
  rw [hv] at cV
  clear hv
  go_enter Tryz.func101, Tryz.ntmps101
  go_wp2_with (first | (go_at_call 116; (with_reducible refine (cV _).mono ?_); rintro e w1 ⟨rfl, hb1⟩; have hr1 := Row.below (Row.made w 91 zN) hb1 (by simp); obtain ⟨k0, k1, f0, f1⟩ := two_cells hr1; have HR1 := Lib.hid hr1; have HB1 := Lib.hid (Below.trans (below_alloc w _) (hb1.mono (by simp))); clear hr1 hb1) | fail)
  (try simp only [Exit.inBlock, Exit.then])
  refine bodyPost_ret (res_ct rfl rfl ((HR1.out.stored 0 (.bool false)).stored 1 (.slice none 0 0))) rfl ?_
  exact ⟨rfl, (HB1.out.setCell (p := ⟨w.heap.size, 0, none⟩) (Nat.le_refl _) _).setCell (p := ⟨w.heap.size, 1, none⟩) (Nat.le_refl _) _⟩

set_option maxRecDepth 100000 in
set_option maxHeartbeats 8000000 in
theorem parse_ok (s : ByteArray) (hv : validB s.data.toList = true) (w : World) :
    Calls Tryz.prog 101 #[.string s] w fun e w' => ∃ A L c, e = .returned (.tuple #[.agg #[.bool (decide (numB s < 0)), .slice A L c], .bool true]) ∧ Nt w' w'.heap.size A L c (numB s).natAbs ∧ Below w.heap.size w w' := by
  have cV := fun W => valid_any s W
  rw [hv] at cV
  obtain ⟨h1, h2, h3, h4, h5⟩ := mag_facts s hv
  have cR := fun W => read_any (magB s) h1 h2 (by omega) W
  rw [h4] at cR
  rw [← h5]
  clear hv h1 h2 h3 h4 h5
  go_enter Tryz.func101, Tryz.ntmps101
  go_wp2_with (first
    | (go_at_call 116; (with_reducible refine (cV _).mono ?_); rintro e w1 ⟨rfl, hb1⟩; have hr1 := Row.below (Row.made w 91 zN) hb1 (by simp); have HR1 := Lib.hid hr1; have HB1 := Lib.hid (Below.trans (below_alloc w _) (hb1.mono (by simp))); clear hr1 hb1)
    | (go_at_call 124; (with_reducible refine (cut_any s _).mono ?_); rintro e w' ⟨rfl, rfl⟩)
    | (go_at_call 125; (with_reducible refine (cR _).mono ?_); rintro e w2 ⟨A, L, c, rfl, hN, hb2⟩; have hr2 := HR1.out.below hb2 HR1.out.inside; obtain ⟨k0, k1, f0, f1⟩ := two_cells hr2; have HR2 := Lib.hid hr2; clear hr2)
    | fail)
  (try simp only [Exit.inBlock, Exit.then])
  refine bodyPost_ret (res_ct rfl rfl ((HR2.out.stored 0 (.bool (negB s))).stored 1 (.slice A L c))) rfl ?_
  have hb : Below w.heap.size w ((w2.setCell ⟨w.heap.size, 0, none⟩ (.bool (negB s))).setCell ⟨w.heap.size, 1, none⟩ (.slice A L c)) :=
    ((HB1.out.trans (hb2.mono HB1.out.size)).setCell (p := ⟨w.heap.size, 0, none⟩) (Nat.le_refl _) _).setCell (p := ⟨w.heap.size, 1, none⟩) (Nat.le_refl _) _
  exact ⟨A, L, c, rfl, by rw [put_size]; exact hN.put2 HR2.out _ _ _ _, hb⟩

/-- The sign and the size that parse finds; none where the string is not valid. -/
def sgB (s : ByteArray) : Bool := if validB s.data.toList then decide (numB s < 0) else false
def szB (s : ByteArray) : Nat := if validB s.data.toList then (numB s).natAbs else 0
theorem parse_any (s : ByteArray) (w : World) :
    Calls Tryz.prog 101 #[.string s] w fun e w' => ∃ A L c, e = .returned (.tuple #[.agg #[.bool (sgB s), .slice A L c], .bool (validB s.data.toList)]) ∧ Nt w' w'.heap.size A L c (szB s) ∧ Below w.heap.size w w' := by
  cases hv : validB s.data.toList
  · refine (parse_bad s hv w).mono (fun e w' h => ⟨none, 0, 0, ?_, ?_, h.2⟩)
    · rw [h.1, sgB, hv]; rfl
    · rw [szB, hv]; exact nt_zero _ _
  · refine (parse_ok s hv w).mono (fun e w' h => ?_)
    obtain ⟨A, L, c, h1, h2, h3⟩ := h
    refine ⟨A, L, c, ?_, ?_, h3⟩
    · rw [h1, sgB, hv]; rfl
    · rw [szB, hv]; exact h2

set_option maxRecDepth 100000 in
set_option maxHeartbeats 8000000 in
theorem both_any (a b : ByteArray) (w : World) :
    Calls Tryz.prog 73 #[.string a, .string b] w fun e w' => ∃ A1 L1 c1 A2 L2 c2, e = .returned (.tuple #[.agg #[.bool (sgB a), .slice A1 L1 c1], .agg #[.bool (sgB b), .slice A2 L2 c2], .bool (both a b)]) ∧
      Nt w' w'.heap.size A1 L1 c1 (szB a) ∧ Nt w' w'.heap.size A2 L2 c2 (szB b) ∧ Below w.heap.size w w' := by
  have cA := fun W => parse_any a W
  have cB := fun W => parse_any b W
  obtain ⟨sa, hsa⟩ : ∃ sa, sa = sgB a := ⟨_, rfl⟩
  obtain ⟨sb, hsb⟩ : ∃ sb, sb = sgB b := ⟨_, rfl⟩
  rw [← hsa] at cA ⊢
  rw [← hsb] at cB ⊢
  obtain ⟨na, hna⟩ : ∃ na, na = szB a := ⟨_, rfl⟩
  obtain ⟨nb, hnb⟩ : ∃ nb, nb = szB b := ⟨_, rfl⟩
  rw [← hna] at cA ⊢
  rw [← hnb] at cB ⊢
  rw [both]
  obtain ⟨Va, hVa⟩ : ∃ Va, Va = validB a.data.toList := ⟨_, rfl⟩
  obtain ⟨Vb, hVb⟩ : ∃ Vb, Vb = validB b.data.toList := ⟨_, rfl⟩
  rw [← hVa] at cA ⊢
  rw [← hVb] at cB ⊢
  clear hsa hsb hna hnb hVa hVb
  cases Va
  · rw [show (false && Vb) = false from rfl]
    go_enter Tryz.func73, Tryz.ntmps73
    go_wp2_with (first
      | (go_at_call 101; (with_reducible refine (cA _).mono ?_); rintro e w1 ⟨A1, L1, c1, rfl, hN1, hb1⟩)
      | (go_at_call 101; (with_reducible refine (cB _).mono ?_); rintro e w2 ⟨A2, L2, c2, rfl, hN2, hb2⟩)
      | fail)
    have hb0 : Below w.heap.size w ((w.alloc (.cells zN 91)).alloc (.cells zN 91)) := (below_alloc w _).alloc (by simp) _
    have hs0 : ((w.alloc (.cells zN 91)).alloc (.cells zN 91)).heap.size = w.heap.size + 1 + 1 := by simp
    have r4 : Row ((w.alloc (.cells zN 91)).alloc (.cells zN 91)) w.heap.size 91 zN := (Row.made w _ _).later _
    have r5 : Row ((w.alloc (.cells zN 91)).alloc (.cells zN 91)) (w.heap.size + 1) 91 zN := Row.made_at _ _ _ (by simp)
    have hb1' : Below ((w.alloc (.cells zN 91)).alloc (.cells zN 91)).heap.size ((w.alloc (.cells zN 91)).alloc (.cells zN 91)) w1 := hb1
    have hsz1 := hb1'.size
    have q4 := r4.below hb1' (by omega)
    have q5 := r5.below hb1' (by omega)
    have q7 := Row.made w1 91 #[.bool sa, .slice A1 L1 c1]
    have hs1 : (w1.alloc (.cells #[.bool sa, .slice A1 L1 c1] 91)).heap.size = w1.heap.size + 1 := by simp
    have hsz2 := hb2.size
    have p4 := ((q4.later (.cells #[.bool sa, .slice A1 L1 c1] 91)).below hb2 (by omega)).later (.cells #[.bool sb, .slice A2 L2 c2] 91)
    have p5 := ((q5.later (.cells #[.bool sa, .slice A1 L1 c1] 91)).below hb2 (by omega)).later (.cells #[.bool sb, .slice A2 L2 c2] 91)
    have p7 := (q7.below hb2 (by omega)).later (.cells #[.bool sb, .slice A2 L2 c2] 91)
    have p9 := Row.made w2 91 #[.bool sb, .slice A2 L2 c2]
    have hB3 : Below w.heap.size w (w2.alloc (.cells #[.bool sb, .slice A2 L2 c2] 91)) := below_step (below_step (below_step (below_step hb0 hb1') (below_alloc w1 _)) hb2) (below_alloc w2 _)
    have hM1 := ((hN1.kept (below_alloc w1 _)).kept hb2).kept (below_alloc w2 (.cells #[.bool sb, .slice A2 L2 c2] 91))
    have hM2 := hN2.kept (below_alloc w2 (.cells #[.bool sb, .slice A2 L2 c2] 91))
    obtain ⟨g7, hg7⟩ : ∃ g, g = w1.heap.size := ⟨_, rfl⟩
    obtain ⟨g9, hg9⟩ : ∃ g, g = w2.heap.size := ⟨_, rfl⟩
    obtain ⟨g4, hg4⟩ : ∃ g, g = w.heap.size := ⟨_, rfl⟩
    obtain ⟨g5, hg5⟩ : ∃ g, g = w.heap.size + 1 := ⟨_, rfl⟩
    have n47 : g4 ≠ g7 := by omega
    have n49 : g4 ≠ g9 := by omega
    have n45 : g4 ≠ g5 := by omega
    have n57 : g5 ≠ g7 := by omega
    have n59 : g5 ≠ g9 := by omega
    have l4 : w.heap.size ≤ g4 := by omega
    have l5 : w.heap.size ≤ g5 := by omega
    rw [← hg7] at p7 ⊢
    rw [← hg9] at p9 ⊢
    rw [← hg5] at p5 ⊢
    rw [← hg4] at p4
    obtain ⟨W, hW⟩ : ∃ W, W = w2.alloc (.cells #[.bool sb, .slice A2 L2 c2] 91) := ⟨_, rfl⟩
    rw [← hW] at p4 p5 p7 p9 hB3 hM1 hM2 ⊢
    obtain ⟨k40, k41, f40, f41⟩ := two_cells p4
    obtain ⟨k50, k51, f50, f51⟩ := two_cells p5
    obtain ⟨k70, k71, f70, f71⟩ := two_cells p7
    obtain ⟨k90, k91, f90, f91⟩ := two_cells p9
    have P4 := Lib.hid p4; have P5 := Lib.hid p5; have HB3 := Lib.hid hB3; have HM1 := Lib.hid hM1; have HM2 := Lib.hid hM2
    clear hW hb0 hs0 r4 r5 hb1 hb1' hsz1 q4 q5 q7 hs1 hsz2 p4 p5 p7 p9 hB3 hM1 hM2 hN1 hN2 hb2 cA cB hg7 hg9 hg5
    rw [show w.heap.size = g4 from hg4.symm]
    clear hg4
    go_region
    go_wp2
    (try simp only [Exit.inBlock, Exit.then])
    have v4 := num_put P4.out sa A1 L1 c1
    have v5 := num_put (num_far P5.out n45 (.bool sa) (.slice A1 L1 c1)) sb A2 L2 c2
    refine bodyPost_ret (res_cct rfl rfl rfl (num_far v4 (fun e => n45 e.symm) (.bool sb) (.slice A2 L2 c2)).drawn v5.drawn) rfl ?_
    refine ⟨A1, L1, c1, A2, L2, c2, rfl, ?_, ?_, (below_put (below_put HB3.out l4 _ _) l5 _ _).drew⟩
    · show Nt _ (((((W.setCell ⟨g4, 0, none⟩ (.bool sa)).setCell ⟨g4, 1, none⟩ (.slice A1 L1 c1)).setCell ⟨g5, 0, none⟩ (.bool sb)).setCell ⟨g5, 1, none⟩ (.slice A2 L2 c2)).heap.size) _ _ _ _
      rw [put_size, put_size]
      exact ((HM1.out.put2 P4.out sa A1 L1 c1).put2 (num_far P5.out n45 (.bool sa) (.slice A1 L1 c1)) sb A2 L2 c2).drawn
    · show Nt _ (((((W.setCell ⟨g4, 0, none⟩ (.bool sa)).setCell ⟨g4, 1, none⟩ (.slice A1 L1 c1)).setCell ⟨g5, 0, none⟩ (.bool sb)).setCell ⟨g5, 1, none⟩ (.slice A2 L2 c2)).heap.size) _ _ _ _
      rw [put_size, put_size]
      exact ((HM2.out.put2 P4.out sa A1 L1 c1).put2 (num_far P5.out n45 (.bool sa) (.slice A1 L1 c1)) sb A2 L2 c2).drawn

  · rw [show (true && Vb) = Vb from Bool.true_and Vb]
    go_enter Tryz.func73, Tryz.ntmps73
    go_wp2_with (first
      | (go_at_call 101; (with_reducible refine (cA _).mono ?_); rintro e w1 ⟨A1, L1, c1, rfl, hN1, hb1⟩)
      | (go_at_call 101; (with_reducible refine (cB _).mono ?_); rintro e w2 ⟨A2, L2, c2, rfl, hN2, hb2⟩)
      | fail)
    have hb0 : Below w.heap.size w ((w.alloc (.cells zN 91)).alloc (.cells zN 91)) := (below_alloc w _).alloc (by simp) _
    have hs0 : ((w.alloc (.cells zN 91)).alloc (.cells zN 91)).heap.size = w.heap.size + 1 + 1 := by simp
    have r4 : Row ((w.alloc (.cells zN 91)).alloc (.cells zN 91)) w.heap.size 91 zN := (Row.made w _ _).later _
    have r5 : Row ((w.alloc (.cells zN 91)).alloc (.cells zN 91)) (w.heap.size + 1) 91 zN := Row.made_at _ _ _ (by simp)
    have hb1' : Below ((w.alloc (.cells zN 91)).alloc (.cells zN 91)).heap.size ((w.alloc (.cells zN 91)).alloc (.cells zN 91)) w1 := hb1
    have hsz1 := hb1'.size
    have q4 := r4.below hb1' (by omega)
    have q5 := r5.below hb1' (by omega)
    have q7 := Row.made w1 91 #[.bool sa, .slice A1 L1 c1]
    have hs1 : (w1.alloc (.cells #[.bool sa, .slice A1 L1 c1] 91)).heap.size = w1.heap.size + 1 := by simp
    have hsz2 := hb2.size
    have p4 := ((q4.later (.cells #[.bool sa, .slice A1 L1 c1] 91)).below hb2 (by omega)).later (.cells #[.bool sb, .slice A2 L2 c2] 91)
    have p5 := ((q5.later (.cells #[.bool sa, .slice A1 L1 c1] 91)).below hb2 (by omega)).later (.cells #[.bool sb, .slice A2 L2 c2] 91)
    have p7 := (q7.below hb2 (by omega)).later (.cells #[.bool sb, .slice A2 L2 c2] 91)
    have p9 := Row.made w2 91 #[.bool sb, .slice A2 L2 c2]
    have hB3 : Below w.heap.size w (w2.alloc (.cells #[.bool sb, .slice A2 L2 c2] 91)) := below_step (below_step (below_step (below_step hb0 hb1') (below_alloc w1 _)) hb2) (below_alloc w2 _)
    have hM1 := ((hN1.kept (below_alloc w1 _)).kept hb2).kept (below_alloc w2 (.cells #[.bool sb, .slice A2 L2 c2] 91))
    have hM2 := hN2.kept (below_alloc w2 (.cells #[.bool sb, .slice A2 L2 c2] 91))
    obtain ⟨g7, hg7⟩ : ∃ g, g = w1.heap.size := ⟨_, rfl⟩
    obtain ⟨g9, hg9⟩ : ∃ g, g = w2.heap.size := ⟨_, rfl⟩
    obtain ⟨g4, hg4⟩ : ∃ g, g = w.heap.size := ⟨_, rfl⟩
    obtain ⟨g5, hg5⟩ : ∃ g, g = w.heap.size + 1 := ⟨_, rfl⟩
    have n47 : g4 ≠ g7 := by omega
    have n49 : g4 ≠ g9 := by omega
    have n45 : g4 ≠ g5 := by omega
    have n57 : g5 ≠ g7 := by omega
    have n59 : g5 ≠ g9 := by omega
    have l4 : w.heap.size ≤ g4 := by omega
    have l5 : w.heap.size ≤ g5 := by omega
    rw [← hg7] at p7 ⊢
    rw [← hg9] at p9 ⊢
    rw [← hg5] at p5 ⊢
    rw [← hg4] at p4
    obtain ⟨W, hW⟩ : ∃ W, W = w2.alloc (.cells #[.bool sb, .slice A2 L2 c2] 91) := ⟨_, rfl⟩
    rw [← hW] at p4 p5 p7 p9 hB3 hM1 hM2 ⊢
    obtain ⟨k40, k41, f40, f41⟩ := two_cells p4
    obtain ⟨k50, k51, f50, f51⟩ := two_cells p5
    obtain ⟨k70, k71, f70, f71⟩ := two_cells p7
    obtain ⟨k90, k91, f90, f91⟩ := two_cells p9
    have P4 := Lib.hid p4; have P5 := Lib.hid p5; have HB3 := Lib.hid hB3; have HM1 := Lib.hid hM1; have HM2 := Lib.hid hM2
    clear hW hb0 hs0 r4 r5 hb1 hb1' hsz1 q4 q5 q7 hs1 hsz2 p4 p5 p7 p9 hB3 hM1 hM2 hN1 hN2 hb2 cA cB hg7 hg9 hg5
    rw [show w.heap.size = g4 from hg4.symm]
    clear hg4
    go_region
    go_wp2
    (try simp only [Exit.inBlock, Exit.then])
    have v4 := num_put P4.out sa A1 L1 c1
    have v5 := num_put (num_far P5.out n45 (.bool sa) (.slice A1 L1 c1)) sb A2 L2 c2
    refine bodyPost_ret (res_cct rfl rfl rfl (num_far v4 (fun e => n45 e.symm) (.bool sb) (.slice A2 L2 c2)).drawn v5.drawn) rfl ?_
    refine ⟨A1, L1, c1, A2, L2, c2, rfl, ?_, ?_, (below_put (below_put HB3.out l4 _ _) l5 _ _).drew⟩
    · show Nt _ (((((W.setCell ⟨g4, 0, none⟩ (.bool sa)).setCell ⟨g4, 1, none⟩ (.slice A1 L1 c1)).setCell ⟨g5, 0, none⟩ (.bool sb)).setCell ⟨g5, 1, none⟩ (.slice A2 L2 c2)).heap.size) _ _ _ _
      rw [put_size, put_size]
      exact ((HM1.out.put2 P4.out sa A1 L1 c1).put2 (num_far P5.out n45 (.bool sa) (.slice A1 L1 c1)) sb A2 L2 c2).drawn
    · show Nt _ (((((W.setCell ⟨g4, 0, none⟩ (.bool sa)).setCell ⟨g4, 1, none⟩ (.slice A1 L1 c1)).setCell ⟨g5, 0, none⟩ (.bool sb)).setCell ⟨g5, 1, none⟩ (.slice A2 L2 c2)).heap.size) _ _ _ _
      rw [put_size, put_size]
      exact ((HM2.out.put2 P4.out sa A1 L1 c1).put2 (num_far P5.out n45 (.bool sa) (.slice A1 L1 c1)) sb A2 L2 c2).drawn
end Go.Proofs.YtgpncnnlhhmjaaaGreatDoor
