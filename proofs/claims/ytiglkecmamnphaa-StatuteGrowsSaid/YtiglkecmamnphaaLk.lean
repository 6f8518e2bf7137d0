/- look. -/
import Derived.Test.YtiglkecmamnphaaSy
namespace Go.Proofs.Ytiglkecmamnphaa
open Go.RowKit Go.Sort Go.Lib

theorem aFk_succ (b : Bk) (q : Qn) (k : Nat) : aFk b q (k + 1) = aFk b q k ++ (if fctA q (fctOf b (k : Int)) = true then [(k : Int)] else []) := by
  unfold aFk
  rw [List.range_succ, List.map_append, List.filter_append]
  congr 1
  simp only [List.map_cons, List.map_nil, List.filter_cons, List.filter_nil]
  rfl
theorem aCk_succ (b : Bk) (q : Qn) (k : Nat) : aCk b q (k + 1) = aCk b q k ++ (if clsA b q (k : Int) (clsOf b (k : Int)) = true then [(k : Int)] else []) := by
  unfold aCk
  rw [List.range_succ, List.map_append, List.filter_append]
  congr 1
  simp only [List.map_cons, List.map_nil, List.filter_cons, List.filter_nil]
  rfl
theorem aFk_lt (b : Bk) (q : Qn) (k : Nat) : (Up (aFk b q k) ∧ ∀ y ∈ aFk b q k, y < (k : Int)) ∧ (aFk b q k).length ≤ k := by
  refine ⟨⟨up_filter (range_up k) _, fun y hy => ?_⟩, ?_⟩
  · obtain ⟨i, hi, rfl⟩ := List.mem_map.1 (List.mem_filter.1 hy).1
    have := List.mem_range.1 hi
    show (i : Int) < (k : Int)
    omega
  · refine Nat.le_trans (List.length_filter_le _ _) ?_
    simp
theorem aCk_lt (b : Bk) (q : Qn) (k : Nat) : (Up (aCk b q k) ∧ ∀ y ∈ aCk b q k, y < (k : Int)) ∧ (aCk b q k).length ≤ k := by
  refine ⟨⟨up_filter (range_up k) _, fun y hy => ?_⟩, ?_⟩
  · obtain ⟨i, hi, rfl⟩ := List.mem_map.1 (List.mem_filter.1 hy).1
    have := List.mem_range.1 hi
    show (i : Int) < (k : Int)
    omega
  · refine Nat.le_trans (List.length_filter_le _ _) ?_
    simp
abbrev nilS : Value := .slice none 0 0
theorem asAddr_ptr {p : Tmp} {tmps : Array Value} {w : World} {g : Nat} (hp : tmps.getD p undef = .pointer (some ⟨g, 0, none⟩)) : (asAddr (tmps.getD p undef)).run Try.prog w = .ok ⟨g, 0, none⟩ w := by rw [hp]; rfl
theorem load_v5 {w : World} {g : Nat} {t : TypeId} {a b c d e : Value} (h : Row w g t #[a, b, c, d, e]) : (loadVar 79 ⟨g, 0, none⟩).run Try.prog w = .ok (.agg #[a, b, c, d, e]) w := by
  obtain ⟨k0, k1, k2, k3, k4⟩ := box5 h
  simp [loadVar, go_sem, k0, k1, k2, k3, k4]
theorem res_v5 {fn : Func} {p u : Tmp} {tmps : Array Value} {w : World} {g : Nat} {t : TypeId} {a b c d e : Value} (h : fn.results = #[.cell p 79, .tmp u]) (hp : tmps.getD p undef = .pointer (some ⟨g, 0, none⟩)) (hr : Row w g t #[a, b, c, d, e]) : (results fn tmps).run Try.prog w = .ok (.tuple #[.agg #[a, b, c, d, e], tmps.getD u undef]) w := by
  have hl := load_v5 hr
  have ha := asAddr_ptr (w := w) hp
  simp only [results, h]
  simp [Sem.run_bind, Result.andThen, ha, hl, -Array.getD_eq_getD_getElem?]
/-- Memory while look runs. -/
structure Lk (w : World) (gv : Nat) (cv rv fv : Value) (qc : Array Value) (s3 s4 : Value) (W : World) : Prop where
  b : Below w.heap.size w W
  r1 : Row W w.heap.size 34 #[cv, rv, fv]
  r2 : Row W (w.heap.size + 1) 37 qc
  r3 : Row W (w.heap.size + 1 + 1) 79 #[nilS, nilS, nilS, nilS, nilS]
  rv : Row W gv 79 #[cv, rv, fv, s3, s4]
section
variable {w W X : World} {gv : Nat} {cv rv fv s3 s4 : Value} {qc : Array Value}
theorem Lk.step (h : Lk w gv cv rv fv qc s3 s4 W) (hb : Below W.heap.size W X) : Lk w gv cv rv fv qc s3 s4 X := ⟨below_step h.b hb, h.r1.step hb, h.r2.step hb, h.r3.step hb, h.rv.step hb⟩
theorem Lk.grow {B n : Nat} {v : Value} {xs : List Value} (h : Lk w gv cv rv fv qc s3 s4 W) (hg : W.grownBy X v.ownBlock) (ho : W.ownsRow B 3 1 v n xs) (hB : w.heap.size ≤ B) : Lk w gv cv rv fv qc s3 s4 X :=
  ⟨h.b.grown hg h.b.size (fun j ej => Nat.le_trans hB (ho.lt j ej).1), h.r1.grown hg (own_row3 ho h.r1 (by decide)), h.r2.grown hg (own_row3 ho h.r2 (by decide)), h.r3.grown hg (own_row3 ho h.r3 (by decide)), h.rv.grown hg (own_row3 ho h.rv (by decide))⟩
theorem Lk.put3 (h : Lk w gv cv rv fv qc s3 s4 W) (hg : w.heap.size + 1 + 1 < gv) (v : Value) : Lk w gv cv rv fv qc v s4 (W.setCell ⟨gv, 3, none⟩ v) :=
  ⟨h.b.setCell (p := ⟨gv, 3, none⟩) (by show w.heap.size ≤ gv; omega) v, h.r1.aside (p := ⟨gv, 3, none⟩) (by show gv ≠ _; omega) v, h.r2.aside (p := ⟨gv, 3, none⟩) (by show gv ≠ _; omega) v, h.r3.aside (p := ⟨gv, 3, none⟩) (by show gv ≠ _; omega) v, h.rv.stored 3 v⟩
theorem Lk.put4 (h : Lk w gv cv rv fv qc s3 s4 W) (hg : w.heap.size + 1 + 1 < gv) (v : Value) : Lk w gv cv rv fv qc s3 v (W.setCell ⟨gv, 4, none⟩ v) :=
  ⟨h.b.setCell (p := ⟨gv, 4, none⟩) (by show w.heap.size ≤ gv; omega) v, h.r1.aside (p := ⟨gv, 4, none⟩) (by show gv ≠ _; omega) v, h.r2.aside (p := ⟨gv, 4, none⟩) (by show gv ≠ _; omega) v, h.r3.aside (p := ⟨gv, 4, none⟩) (by show gv ≠ _; omega) v, h.rv.stored 4 v⟩
end
theorem own_form {w : World} {B n k : Nat} {e : TypeId} {v : Value} {xs : List Value} (h : w.ownsRow B e k v n xs) : ∃ A m c, v = .slice A m c := by
  rcases h.2 with ⟨rfl, _⟩ | ⟨g, cap, _, rfl, _⟩
  · exact ⟨_, _, _, rfl⟩
  · exact ⟨_, _, _, rfl⟩
theorem own_put5 {W : World} {B n k g : Nat} {e t : TypeId} {v : Value} {xs : List Value} {C : Array Value} (h : W.ownsRow B e k v n xs) (hr : Row W g t C) (hne : t ≠ e) (a0 a1 a2 a3 a4 : Value) :
    (((((W.setCell ⟨g, 0, none⟩ a0).setCell ⟨g, 1, none⟩ a1).setCell ⟨g, 2, none⟩ a2).setCell ⟨g, 3, none⟩ a3).setCell ⟨g, 4, none⟩ a4).ownsRow B e k v n xs := by
  have st : ∀ {X : World} {D : Array Value} (i : Nat) (a : Value), X.ownsRow B e k v n xs → Row X g t D → (X.setCell ⟨g, i, none⟩ a).ownsRow B e k v n xs := fun i a h hr => h.kept (grown_set _ _ _ _) (.inr (fun e' => own_row3 h hr hne e'.symm))
  have r1 := hr.stored 0 a0
  have r2 := r1.stored 1 a1
  have r3 := r2.stored 2 a2
  have r4 := r3.stored 3 a3
  exact st 4 a4 (st 3 a3 (st 2 a2 (st 1 a1 (st 0 a0 h hr) r1) r2) r3) r4
/-- An older row of the call's own is kept while a newer one grows. -/
theorem own_kept2 {X Y : World} {B1 B2 n m k k2 : Nat} {e e2 : TypeId} {u v : Value} {xs ys : List Value} (h : X.ownsRow B1 e k u n xs) (ho : X.ownsRow B2 e2 k2 v m ys) (hb : ∀ g, u.ownBlock = some g → g < B2) (hg : X.grownBy Y v.ownBlock) : Y.ownsRow B1 e k u n xs := by
  refine h.kept hg ?_
  cases hu : u.ownBlock with
  | none => exact .inl rfl
  | some g =>
    refine .inr fun e' => ?_
    have h1 := hb g hu
    have h2 := (ho.lt g e'.symm).1
    omega
/-- The seconds in the rules are integers of the machine. -/
def BkI (b : Bk) : Prop := (∀ c ∈ b.cls, -9223372036854775808 ≤ c.st ∧ c.st ≤ 9223372036854775807) ∧ ∀ f ∈ b.fct, (-9223372036854775808 ≤ f.st ∧ f.st ≤ 9223372036854775807) ∧ -9223372036854775808 ≤ f.kt ∧ f.kt ≤ 9223372036854775807
theorem three {P : Prop} (b1 b2 b3 : Bool) (h1 : b1 = false → P) (h2 : b1 = true → b2 = false → P) (h3 : b1 = true → b2 = true → b3 = false → P) (h4 : b1 = true → b2 = true → b3 = true → P) : P := five b1 b2 b3 true true h1 h2 h3 (fun _ _ _ h => by cases h) (fun a b c _ => h4 a b c)

set_option maxRecDepth 100000 in
set_option maxHeartbeats 8000000 in
theorem look_no (b : Bk) (q : Qn) (cv rv fv : Value) (w : World) (hw : BkV w w.heap.size cv rv fv b) (hI : BkI b) (hno : (validB b && asksB q) = false) :
    Calls Try.prog 30 #[.agg #[cv, rv, fv], .agg (qnC q)] w fun e w' => e = .returned (.tuple #[.agg #[nilS, nilS, nilS, nilS, nilS], .bool false]) ∧ Below w.heap.size w w' := by
  have va := fun (W : World) (h : Below w.heap.size w W) => valid_any b cv rv fv W (hw.deep h) hI.1 hI.2
  have aa := fun (W : World) => asks_any q W
  obtain ⟨W0, hW0⟩ : ∃ W0, W0 = ((w.alloc (.cells #[cv, rv, fv] 34)).alloc (.cells (qnC q) 37)).alloc (.cells #[nilS, nilS, nilS, nilS, nilS] 79) := ⟨_, rfl⟩
  have hb0 : Below w.heap.size w W0 := by rw [hW0]; exact keep_alloc (keep_alloc (below_alloc _ _) _) _
  have r1 : Row W0 w.heap.size 34 #[cv, rv, fv] := by rw [hW0]; exact ((Row.made w _ _).later _).later _
  have r2 : Row W0 (w.heap.size + 1) 37 (qnC q) := by rw [hW0]; exact (Row.made_at _ _ _ (by simp)).later _
  have r3 : Row W0 (w.heap.size + 1 + 1) 79 #[nilS, nilS, nilS, nilS, nilS] := by rw [hW0]; exact Row.made_at _ _ _ (by simp)
  obtain ⟨k0, k1, k2, _, _, _⟩ := r1.three
  have r2' := r2
  unfold qnC at r2'
  obtain ⟨m0, m1, m2, m3⟩ := box4 r2'
  have K0 := cell_regrown k0; have K1 := cell_regrown k1; have K2 := cell_regrown k2; have M0 := cell_regrown m0; have M1 := cell_regrown m1; have M2 := cell_regrown m2; have M3 := cell_regrown m3
  generalize validB b = vb at *
  generalize asksB q = ab at *
  have VA := Lib.hid va; have AA := Lib.hid aa; have HB0 := Lib.hid hb0; have R3 := Lib.hid r3
  clear va aa hb0 r1 r2 r3 r2' k0 k1 k2 m0 m1 m2 m3 hw hI
  obtain ⟨th, sy, tm, kn⟩ := q
  unfold qnC at *
  dsimp only at *
  refine three vb ab true (fun h1 => ?_) (fun h1 h2 => ?_) (fun h1 h2 h3 => ?_) (fun h1 h2 h3 => ?_)
  · subst h1
    go_enter Try.func30, Try.ntmps30
    go_upto_region 1 with (fail)
    rw [← hW0]
    clear hW0
    refine wp_region_quiet_forced ?_
    repeat (go_big_quiet_step (first | (go_at_call 25; with_reducible exact Calls.regrown_of (VA.out _ (below_step HB0.out (below_regrown _ _ _)))) | (go_at_call 26; with_reducible exact Calls.regrown_of (AA.out _)) | fail))
    refine wpQuiet_nil ?_; intro _ hw'; obtain ⟨⟨dq, osq⟩, hw''⟩ := hw'; subst hw''
    obtain ⟨W2, hW2⟩ : ∃ W2, W2 = Sort.grow (redrawn W0 dq) osq := ⟨_, rfl⟩
    have b2 : Below W0.heap.size W0 W2 := by rw [hW2]; exact below_regrown _ _ _
    rw [← hW2]
    clear hW2 K0 K1 K2 M0 M1 M2 M3
    have r3 := R3.out.step b2
    have f0 := r3.free 0; have f1 := r3.free 1; have f2 := r3.free 2; have f3 := r3.free 3; have f4 := r3.free 4
    obtain ⟨k0, k1, k2, k3, k4⟩ := box5 r3
    have R3' := Lib.hid r3; have B2 := Lib.hid (below_step HB0.out b2)
    clear r3 b2
    go_wp2
    refine bodyPost_ret (res_v5 rfl rfl (((((R3'.out.stored 0 nilS).stored 1 nilS).stored 2 nilS).stored 3 nilS).stored 4 nilS)) rfl ?_
    exact ⟨rfl, ((((B2.out.setCell (p := ⟨w.heap.size + 1 + 1, 0, none⟩) (by show w.heap.size ≤ w.heap.size + 1 + 1; omega) _).setCell (p := ⟨w.heap.size + 1 + 1, 1, none⟩) (by show w.heap.size ≤ w.heap.size + 1 + 1; omega) _).setCell (p := ⟨w.heap.size + 1 + 1, 2, none⟩) (by show w.heap.size ≤ w.heap.size + 1 + 1; omega) _).setCell (p := ⟨w.heap.size + 1 + 1, 3, none⟩) (by show w.heap.size ≤ w.heap.size + 1 + 1; omega) _).setCell (p := ⟨w.heap.size + 1 + 1, 4, none⟩) (by show w.heap.size ≤ w.heap.size + 1 + 1; omega) _⟩
  · subst h1 h2
    go_enter Try.func30, Try.ntmps30
    go_upto_region 1 with (fail)
    rw [← hW0]
    clear hW0
    refine wp_region_quiet_forced ?_
    repeat (go_big_quiet_step (first | (go_at_call 25; with_reducible exact Calls.regrown_of (VA.out _ (below_step HB0.out (below_regrown _ _ _)))) | (go_at_call 26; with_reducible exact Calls.regrown_of (AA.out _)) | fail))
    refine wpQuiet_nil ?_; intro _ hw'; obtain ⟨⟨dq, osq⟩, hw''⟩ := hw'; subst hw''
    obtain ⟨W2, hW2⟩ : ∃ W2, W2 = Sort.grow (redrawn W0 dq) osq := ⟨_, rfl⟩
    have b2 : Below W0.heap.size W0 W2 := by rw [hW2]; exact below_regrown _ _ _
    rw [← hW2]
    clear hW2 K0 K1 K2 M0 M1 M2 M3
    have r3 := R3.out.step b2
    have f0 := r3.free 0; have f1 := r3.free 1; have f2 := r3.free 2; have f3 := r3.free 3; have f4 := r3.free 4
    obtain ⟨k0, k1, k2, k3, k4⟩ := box5 r3
    have R3' := Lib.hid r3; have B2 := Lib.hid (below_step HB0.out b2)
    clear r3 b2
    go_wp2
    refine bodyPost_ret (res_v5 rfl rfl (((((R3'.out.stored 0 nilS).stored 1 nilS).stored 2 nilS).stored 3 nilS).stored 4 nilS)) rfl ?_
    exact ⟨rfl, ((((B2.out.setCell (p := ⟨w.heap.size + 1 + 1, 0, none⟩) (by show w.heap.size ≤ w.heap.size + 1 + 1; omega) _).setCell (p := ⟨w.heap.size + 1 + 1, 1, none⟩) (by show w.heap.size ≤ w.heap.size + 1 + 1; omega) _).setCell (p := ⟨w.heap.size + 1 + 1, 2, none⟩) (by show w.heap.size ≤ w.heap.size + 1 + 1; omega) _).setCell (p := ⟨w.heap.size + 1 + 1, 3, none⟩) (by show w.heap.size ≤ w.heap.size + 1 + 1; omega) _).setCell (p := ⟨w.heap.size + 1 + 1, 4, none⟩) (by show w.heap.size ≤ w.heap.size + 1 + 1; omega) _⟩
  · cases h3
  · subst h1 h2
    cases hno

set_option maxRecDepth 100000 in
set_option maxHeartbeats 40000000 in
theorem look_yes (b : Bk) (q : Qn) (cv rv fv : Value) (w : World) (hw : BkV w w.heap.size cv rv fv b) (hI : BkI b) (hv : validB b = true) (hq : asksB q = true) :
    Calls Try.prog 30 #[.agg #[cv, rv, fv], .agg (qnC q)] w fun e w' => ∃ av bv, e = .returned (.tuple #[.agg #[cv, rv, fv, av, bv], .bool true]) ∧ IntsV w' w'.heap.size av (aF b q) ∧ IntsV w' w'.heap.size bv (aC b q) ∧ Below w.heap.size w w' := by
  have hl20 : b.cls.length ≤ 20 ∧ b.fct.length ≤ 20 := by
    simp only [validB, Bool.and_eq_true, decide_eq_true_eq] at hv
    exact ⟨hv.1.1.1.1.1, hv.1.1.1.2⟩
  have hrp := fun (i : Int) (W : World) (h : Below w.heap.size w W) => repealed_any b q i cv rv fv W (hw.deep h)
  have va := fun (W : World) (h : Below w.heap.size w W) => valid_any b cv rv fv W (hw.deep h) hI.1 hI.2
  have aa := fun (W : World) => asks_any q W
  obtain ⟨W0, hW0⟩ : ∃ W0, W0 = ((w.alloc (.cells #[cv, rv, fv] 34)).alloc (.cells (qnC q) 37)).alloc (.cells #[nilS, nilS, nilS, nilS, nilS] 79) := ⟨_, rfl⟩
  have hb0 : Below w.heap.size w W0 := by rw [hW0]; exact keep_alloc (keep_alloc (below_alloc _ _) _) _
  have r1 : Row W0 w.heap.size 34 #[cv, rv, fv] := by rw [hW0]; exact ((Row.made w _ _).later _).later _
  have r2 : Row W0 (w.heap.size + 1) 37 (qnC q) := by rw [hW0]; exact (Row.made_at _ _ _ (by simp)).later _
  have r3 : Row W0 (w.heap.size + 1 + 1) 79 #[nilS, nilS, nilS, nilS, nilS] := by rw [hW0]; exact Row.made_at _ _ _ (by simp)
  obtain ⟨k0, k1, k2, _, _, _⟩ := r1.three
  have r2' := r2
  unfold qnC at r2'
  obtain ⟨m0, m1, m2, m3⟩ := box4 r2'
  have K0 := cell_regrown k0; have K1 := cell_regrown k1; have K2 := cell_regrown k2; have M0 := cell_regrown m0; have M1 := cell_regrown m1; have M2 := cell_regrown m2; have M3 := cell_regrown m3
  rw [hv] at va
  rw [hq] at aa
  have hFl := aFk_lt b q; have hCl := aCk_lt b q; have hFs := aFk_succ b q; have hCs := aCk_succ b q
  have hFe : aF b q = aFk b q b.fct.length := rfl
  have hCe : aC b q = aCk b q b.cls.length := rfl
  obtain ⟨FA, fc, rfl, _, hFG⟩ := hw.2.2.fct
  obtain ⟨CA, cc, rfl, _, _⟩ := hw.1
  obtain ⟨RA, rc, rfl, _, _⟩ := hw.2.1.rpl
  generalize b.rpl.length = LR at *
  have hCG := fun (W : World) (h : Below w.heap.size w W) (i : Nat) (x : Cls) (hx : b.cls[i]? = some x) => (hw.deep h).1.get hx
  obtain ⟨LF, hLF⟩ : ∃ x, x = b.fct.length := ⟨_, rfl⟩
  obtain ⟨LC, hLC⟩ : ∃ x, x = b.cls.length := ⟨_, rfl⟩
  rw [← hLF] at hl20 va k2 r1 hFe ⊢
  rw [← hLC] at hl20 va k0 r1 hCe ⊢
  simp only [← hLC, ← hLF] at hrp hCG hW0 K0 K2
  obtain ⟨hC20, hF20⟩ := hl20
  have VA := Lib.hid va; have AA := Lib.hid aa; have HB0 := Lib.hid hb0; have R1 := Lib.hid r1; have R2 := Lib.hid r2; have R3 := Lib.hid r3; have HRP := Lib.hid hrp; have HFL := Lib.hid hFl; have HCL := Lib.hid hCl; have HFS := Lib.hid hFs; have HCS := Lib.hid hCs; have HFE := Lib.hid hFe; have HCE := Lib.hid hCe; have HFG := Lib.hid hFG; have HCG := Lib.hid hCG; have HLF := Lib.hid hLF; have HLC := Lib.hid hLC
  clear va aa hb0 r1 r2 r3 r2' k0 k1 k2 m0 m1 m2 m3 hw hI hv hq hrp hFl hCl hFs hCs hFe hCe hFG hCG hLF hLC
  obtain ⟨th, sy, tm, kn⟩ := q
  unfold qnC at *
  dsimp only at *
  go_enter Try.func30, Try.ntmps30
  go_upto_region 1 with (fail)
  rw [← hW0]
  clear hW0
  refine wp_region_quiet_forced ?_
  repeat (go_big_quiet_step (first | (go_at_call 25; with_reducible exact Calls.regrown_of (VA.out _ (below_step HB0.out (below_regrown _ _ _)))) | (go_at_call 26; with_reducible exact Calls.regrown_of (AA.out _)) | fail))
  refine wpQuiet_nil ?_; intro _ hw'; obtain ⟨⟨dq, osq⟩, hw''⟩ := hw'; subst hw''
  obtain ⟨W2, hW2⟩ : ∃ W2, W2 = Sort.grow (redrawn W0 dq) osq := ⟨_, rfl⟩
  have b2 : Below W0.heap.size W0 W2 := by rw [hW2]; exact below_regrown _ _ _
  rw [← hW2]
  clear hW2 K0 K1 K2 M0 M1 M2 M3
  have e1 := R1.out.step b2
  obtain ⟨k0, k1, k2, _, _, _⟩ := e1.three
  have ls : Lk w W2.heap.size (.slice CA LC cc) (.slice RA LR rc) (.slice FA LF fc) #[.int .i64 th, .int .i64 sy, .int .i64 tm, .int .i64 kn] nilS nilS (W2.alloc (.cells #[.slice CA LC cc, .slice RA LR rc, .slice FA LF fc, nilS, nilS] 79)) :=
    ⟨keep_alloc (below_step HB0.out b2) _, e1.later _, (R2.out.step b2).later _, (R3.out.step b2).later _, Row.made _ _ _⟩
  have hgv : w.heap.size + 1 + 1 < W2.heap.size := (R3.out.step b2).inside
  have LS := Lib.hid ls
  clear e1 b2 ls R1 R2 R3 HB0 VA AA
  go_upto_region 4 with (fail)
  obtain ⟨W3, hW3⟩ : ∃ W3, W3 = W2.alloc (.cells #[.slice CA LC cc, .slice RA LR rc, .slice FA LF fc, nilS, nilS] 79) := ⟨_, rfl⟩
  rw [← hW3] at LS ⊢
  have hs3 : W3.heap.size = W2.heap.size + 1 := by rw [hW3]; simp
  obtain ⟨gv, hgve⟩ : ∃ gv, gv = W2.heap.size := ⟨_, rfl⟩
  rw [← hgve] at LS hgv hs3 ⊢
  clear hW3 hgve k0 k1 k2
  obtain ⟨_, _, k2, _, _, _⟩ := LS.out.r1.three
  go_wp2
  clear k2
  go_loopg [7, 8, 25] LF (fun kx s7 s8 s25 wr => ∃ (k : Nat) (s3 : Value), s25 = .int .i64 (k : Int) ∧ k + kx = LF ∧ Lk w gv (.slice CA LC cc) (.slice RA LR rc) (.slice FA LF fc) #[.int .i64 th, .int .i64 sy, .int .i64 tm, .int .i64 kn] s3 nilS wr ∧ gv + 1 ≤ wr.heap.size ∧ wr.ownsRow (gv + 1) 3 1 s3 (aFk b ⟨th, sy, tm, kn⟩ k).length (iC (aFk b ⟨th, sy, tm, kn⟩ k)))
  case atStart => exact ⟨0, nilS, rfl, by omega, LS.out, by omega, World.ownsRow_nil _ _ _ _⟩
  case round =>
    clear LS hs3
    obtain ⟨k, s3, rfl, hk, hls, hsz, ho⟩ := hrel
    by_cases hlt : k < LF
    · obtain ⟨x, hx⟩ : ∃ y, b.fct[k]? = some y := at_lt (by rw [← HLF.out]; exact hlt)
      have hof : fctOf b (k : Int) = x := by unfold fctOf; rw [Int.toNat_natCast, hx]; rfl
      obtain ⟨bb, o, hA, hbb, q0, q1, q2, q3, q4, q5⟩ := HFG.out k x hx
      subst hA
      have hlb := hls.b
      have e0 := (hlb.cell (p := ⟨bb, o + k * 6, none⟩) hbb).trans q0
      have e1 := (hlb.cell (p := ⟨bb, o + k * 6 + 1, none⟩) hbb).trans q1
      have e2 := (hlb.cell (p := ⟨bb, o + k * 6 + 2, none⟩) hbb).trans q2
      have e3 := (hlb.cell (p := ⟨bb, o + k * 6 + 3, none⟩) hbb).trans q3
      have e4 := (hlb.cell (p := ⟨bb, o + k * 6 + 4, none⟩) hbb).trans q4
      have e5 := (hlb.cell (p := ⟨bb, o + k * 6 + 5, none⟩) hbb).trans q5
      clear q0 q1 q2 q3 q4 q5 hlb
      have hs := HFS.out k
      rw [hof] at hs
      obtain ⟨xt, xs, xf, xt2, xkf, xkt⟩ := x
      rw [show fctA ⟨th, sy, tm, kn⟩ ⟨xt, xs, xf, xt2, xkf, xkt⟩ = (decide (xt = th) && hasB xf xt2 tm && hasB xkf xkt kn) from rfl] at hs
      dsimp only at e0 e1 e2 e3 e4 e5
      have v2 := fun W => has_any xf xt2 tm W
      have v3 := fun W => has_any xkf xkt kn W
      have d1 : (xt == th) = decide (xt = th) := by by_cases h : xt = th <;> simp [h]
      generalize decide (xt = th) = b1 at *
      generalize hasB xf xt2 tm = b2 at *
      generalize hasB xkf xkt kn = b3 at *
      obtain ⟨hup, hlen⟩ := HFL.out k
      generalize aFk b ⟨th, sy, tm, kn⟩ k = F at *
      have HS := Lib.hid hs; have HUP := Lib.hid hup; have HLE := Lib.hid hlen; have V2 := Lib.hid v2; have V3 := Lib.hid v3; have HO := Lib.hid (ho.alloc (.cells #[.int .i64 xt, .int .i64 xs, .int .i64 xf, .int .i64 xt2, .int .i64 xkf, .int .i64 xkt] 57)); have HLS := Lib.hid hls
      clear hs hup hlen v2 v3 ho hls hx hof
      go_upto_region 7 with (fail)
      obtain ⟨W5, hW5⟩ : ∃ W5, W5 = wr.alloc (.cells #[.int .i64 xt, .int .i64 xs, .int .i64 xf, .int .i64 xt2, .int .i64 xkf, .int .i64 xkt] 57) := ⟨_, rfl⟩
      have l5 := HLS.out.step (below_alloc wr (.cells #[.int .i64 xt, .int .i64 xs, .int .i64 xf, .int .i64 xt2, .int .i64 xkf, .int .i64 xkt] 57))
      have rf := Row.made wr 57 #[.int .i64 xt, .int .i64 xs, .int .i64 xf, .int .i64 xt2, .int .i64 xkf, .int .i64 xkt]
      have hs5 : gv + 1 ≤ W5.heap.size := by rw [hW5]; simp; omega
      rw [← hW5] at HO l5 rf ⊢
      obtain ⟨n0, n1, n2, n3, n4, n5⟩ := box6 rf
      obtain ⟨m0, m1, m2, m3⟩ := box4 l5.r2
      have N0 := cell_regrown n0; have N2 := cell_regrown n2; have N3 := cell_regrown n3; have N4 := cell_regrown n4; have N5 := cell_regrown n5; have M0 := cell_regrown m0; have M2 := cell_regrown m2; have M3 := cell_regrown m3
      have L5 := Lib.hid l5
      clear hW5 l5 rf n0 n1 n2 n3 n4 n5 m0 m1 m2 m3 HLS e0 e1 e2 e3 e4 e5
      refine three b1 b2 b3 (fun h1 => ?_) (fun h1 h2 => ?_) (fun h1 h2 h3 => ?_) (fun h1 h2 h3 => ?_)
      · subst h1
        refine wp_region_quiet_forced ?_
        repeat (go_big_quiet_step (first | (go_at_call 41; with_reducible exact Calls.regrown_of (V2.out _)) | (go_at_call 41; with_reducible exact Calls.regrown_of (V3.out _)) | fail))
        refine wpQuiet_nil ?_; intro _ hw'; obtain ⟨⟨dq, osq⟩, hw''⟩ := hw'; subst hw''
        go_wp2
        go_roundg (LF - (k + 1))
        case measure => omega
        case rel => exact ⟨k + 1, s3, by go_num, by omega, L5.out.step (below_regrown _ _ _), Nat.le_trans hs5 (below_regrown _ _ _).size, by rw [HS.out]; simpa using own_over HO.out (below_regrown _ _ _)⟩
      · subst h1 h2
        refine wp_region_quiet_forced ?_
        repeat (go_big_quiet_step (first | (go_at_call 41; with_reducible exact Calls.regrown_of (V2.out _)) | (go_at_call 41; with_reducible exact Calls.regrown_of (V3.out _)) | fail))
        refine wpQuiet_nil ?_; intro _ hw'; obtain ⟨⟨dq, osq⟩, hw''⟩ := hw'; subst hw''
        go_wp2
        go_roundg (LF - (k + 1))
        case measure => omega
        case rel => exact ⟨k + 1, s3, by go_num, by omega, L5.out.step (below_regrown _ _ _), Nat.le_trans hs5 (below_regrown _ _ _).size, by rw [HS.out]; simpa using own_over HO.out (below_regrown _ _ _)⟩
      · subst h1 h2 h3
        refine wp_region_quiet_forced ?_
        repeat (go_big_quiet_step (first | (go_at_call 41; with_reducible exact Calls.regrown_of (V2.out _)) | (go_at_call 41; with_reducible exact Calls.regrown_of (V3.out _)) | fail))
        refine wpQuiet_nil ?_; intro _ hw'; obtain ⟨⟨dq, osq⟩, hw''⟩ := hw'; subst hw''
        go_wp2
        go_roundg (LF - (k + 1))
        case measure => omega
        case rel => exact ⟨k + 1, s3, by go_num, by omega, L5.out.step (below_regrown _ _ _), Nat.le_trans hs5 (below_regrown _ _ _).size, by rw [HS.out]; simpa using own_over HO.out (below_regrown _ _ _)⟩
      · subst h1 h2 h3
        refine wp_region_quiet_forced ?_
        repeat (go_big_quiet_step (first | (go_at_call 41; with_reducible exact Calls.regrown_of (V2.out _)) | (go_at_call 41; with_reducible exact Calls.regrown_of (V3.out _)) | fail))
        refine wpQuiet_nil ?_; intro _ hw'; obtain ⟨⟨dq, osq⟩, hw''⟩ := hw'; subst hw''
        have l6 := L5.out.step (below_regrown W5 dq osq)
        have o6 := own_over HO.out (below_regrown W5 dq osq)
        have hs6 : gv + 1 ≤ (Sort.grow (redrawn W5 dq) osq).heap.size := Nat.le_trans hs5 (below_regrown _ _ _).size
        generalize Sort.grow (redrawn W5 dq) osq = W6 at *
        obtain ⟨_, _, _, g3, _⟩ := box5 l6.rv
        have L6 := Lib.hid (l6.step (below_alloc W6 (.cells #[.int .i64 (k : Int)] 3))); have O6 := Lib.hid (o6.alloc (.cells #[.int .i64 (k : Int)] 3))
        clear l6 o6 L5 HO N0 N2 N3 N4 N5 M0 M2 M3
        go_wp2_with (first
          | (go_at_call 34; (with_reducible refine (add_one (gv + 1) _ F W6.heap.size (k : Int) _ (by simp; omega) O6.out (by simp) (by simp) HUP.out.1 HUP.out.2 (Nat.le_trans HLE.out (by omega))).mono ?_); rintro e w7 ⟨g7, c7, rfl, o7, hg7, _⟩; have l7 := L6.out.grow hg7 O6.out (by omega); have j3 := (l7.rv).free 3; obtain ⟨_, _, _, jc, _⟩ := box5 l7.rv; have L7 := Lib.hid l7; have O7 := Lib.hid o7; have S7 := Lib.hid hg7.size; clear l7 o7 hg7)
          | fail)
        go_roundg (LF - (k + 1))
        case measure => omega
        case rel => exact ⟨k + 1, _, by go_num, by omega, L7.out.put3 hgv _, by have h7 := S7.out; simp at h7 ⊢; omega, by rw [HS.out, show (if (true && true && true) = true then [(k : Int)] else []) = [(k : Int)] from rfl]; have h7 := O7.out; rw [List.length_append] at h7 ⊢; exact h7.kept (grown_set _ _ _ _) (.inr (fun e => own_row3 O7.out L7.out.rv (by decide) e.symm))⟩
    · have hkL : LF = k := by omega
      subst hkL
      rw [← HFE.out] at ho
      have LS := Lib.hid hls; have HO := Lib.hid ho
      obtain ⟨k0, _, _, _, _, _⟩ := hls.r1.three
      clear hls ho HFL HFS HFE
      go_upto_region 10 with (fail)
      obtain ⟨B2, hB2⟩ : ∃ B2, B2 = wr.heap.size := ⟨_, rfl⟩
      have hbf : ∀ g, s3.ownBlock = some g → g < B2 := fun g hg => by rw [hB2]; exact (HO.out.lt g hg).2
      have hbw : w.heap.size ≤ B2 := by rw [hB2]; exact LS.out.b.size
      have HBF := Lib.hid hbf; have HB2 := Lib.hid hB2; have HBW := Lib.hid hbw
      clear hbf hB2 hbw
      go_wp2
      clear k0
      go_loopg [9, 10, 59] LC (fun kx s9 s10 s59 wr => ∃ (k : Nat) (s4 : Value), s59 = .int .i64 (k : Int) ∧ k + kx = LC ∧ Lk w gv (.slice CA LC cc) (.slice RA LR rc) (.slice FA LF fc) #[.int .i64 th, .int .i64 sy, .int .i64 tm, .int .i64 kn] s3 s4 wr ∧ B2 ≤ wr.heap.size ∧ wr.ownsRow (gv + 1) 3 1 s3 (aF b ⟨th, sy, tm, kn⟩).length (iC (aF b ⟨th, sy, tm, kn⟩)) ∧ wr.ownsRow B2 3 1 s4 (aCk b ⟨th, sy, tm, kn⟩ k).length (iC (aCk b ⟨th, sy, tm, kn⟩ k)))
      case atStart => exact ⟨0, nilS, rfl, by omega, LS.out, by rw [HB2.out]; exact Nat.le_refl _, HO.out, World.ownsRow_nil _ _ _ _⟩
      case round =>
        clear LS HO HB2
        obtain ⟨k, s4, rfl, hk, hls, hsz, hoF, ho⟩ := hrel
        by_cases hlt : k < LC
        · obtain ⟨x, hx⟩ : ∃ y, b.cls[k]? = some y := at_lt (by rw [← HLC.out]; exact hlt)
          have hof : clsOf b (k : Int) = x := by unfold clsOf; rw [Int.toNat_natCast, hx]; rfl
          obtain ⟨bb, o, NA, BA, nc, bc, hA, hbb, _, _, e0, e1, e2, e3, e4, e5⟩ := HCG.out wr hls.b k x hx
          subst hA
          have hs := HCS.out k
          rw [hof] at hs
          have v3 := fun (W : World) (h : Below w.heap.size w W) => HRP.out (k : Int) W h
          obtain ⟨xp, xf, xt, xn, xb, xg⟩ := x
          rw [show clsA b ⟨th, sy, tm, kn⟩ (k : Int) ⟨xp, xf, xt, xn, xb, xg⟩ = (decide (xp ≤ kn) && hasB xf xt tm && !repB b ⟨th, sy, tm, kn⟩ (k : Int)) from rfl] at hs
          dsimp only at e0 e1 e2 e3 e4 e5
          have v2 := fun W => has_any xf xt tm W
          generalize xn.length = ln at *
          generalize xb.length = lb at *
          generalize hd1 : decide (xp ≤ kn) = b1 at *
          generalize hasB xf xt tm = b2 at *
          generalize repB b ⟨th, sy, tm, kn⟩ (k : Int) = b3 at *
          obtain ⟨hup, hlen⟩ := HCL.out k
          generalize aCk b ⟨th, sy, tm, kn⟩ k = F at *
          have HS := Lib.hid hs; have HUP := Lib.hid hup; have HLE := Lib.hid hlen; have V2 := Lib.hid v2; have V3 := Lib.hid v3; have HO := Lib.hid (ho.alloc (.cells #[.int .i64 xp, .int .i64 xf, .int .i64 xt, .slice NA ln nc, .slice BA lb bc, .int .i64 xg] 51)); have HOF := Lib.hid (hoF.alloc (.cells #[.int .i64 xp, .int .i64 xf, .int .i64 xt, .slice NA ln nc, .slice BA lb bc, .int .i64 xg] 51)); have HLS := Lib.hid hls
          clear hs hup hlen v2 v3 ho hoF hls hx hof
          go_upto_region 13 with (fail)
          obtain ⟨W5, hW5⟩ : ∃ W5, W5 = wr.alloc (.cells #[.int .i64 xp, .int .i64 xf, .int .i64 xt, .slice NA ln nc, .slice BA lb bc, .int .i64 xg] 51) := ⟨_, rfl⟩
          have l5 := HLS.out.step (below_alloc wr (.cells #[.int .i64 xp, .int .i64 xf, .int .i64 xt, .slice NA ln nc, .slice BA lb bc, .int .i64 xg] 51))
          have rf := Row.made wr 51 #[.int .i64 xp, .int .i64 xf, .int .i64 xt, .slice NA ln nc, .slice BA lb bc, .int .i64 xg]
          have hs5 : B2 ≤ W5.heap.size := by rw [hW5]; simp; omega
          rw [← hW5] at HO HOF l5 rf ⊢
          obtain ⟨n0, n1, n2, n3, n4, n5⟩ := box6 rf
          obtain ⟨m0, m1, m2, m3⟩ := box4 l5.r2
          obtain ⟨p0, p1, p2, _, _, _⟩ := l5.r1.three
          have N0 := cell_regrown n0; have N1 := cell_regrown n1; have N2 := cell_regrown n2; have M0 := cell_regrown m0; have M1 := cell_regrown m1; have M2 := cell_regrown m2; have M3 := cell_regrown m3; have P0 := cell_regrown p0; have P1 := cell_regrown p1; have P2 := cell_regrown p2
          have L5 := Lib.hid l5; have LB5 := Lib.hid l5.b
          clear hW5 l5 rf n0 n1 n2 n3 n4 n5 m0 m1 m2 m3 p0 p1 p2 HLS e0 e1 e2 e3 e4 e5
          refine three b1 b2 (!b3) (fun h1 => ?_) (fun h1 h2 => ?_) (fun h1 h2 h3 => ?_) (fun h1 h2 h3 => ?_)
          · subst h1
            refine wp_region_quiet_forced ?_
            repeat (go_big_quiet_step (first | (go_at_call 41; with_reducible exact Calls.regrown_of (V2.out _)) | (go_at_call 42; with_reducible exact Calls.regrown_of (V3.out _ (below_step LB5.out (below_regrown _ _ _)))) | fail))
            refine wpQuiet_nil ?_; intro _ hw'; obtain ⟨⟨dq, osq⟩, hw''⟩ := hw'; subst hw''
            go_wp2
            go_roundg (LC - (k + 1))
            case measure => omega
            case rel => exact ⟨k + 1, s4, by go_num, by omega, L5.out.step (below_regrown _ _ _), Nat.le_trans hs5 (below_regrown _ _ _).size, own_over HOF.out (below_regrown _ _ _), by rw [HS.out]; simpa using own_over HO.out (below_regrown _ _ _)⟩
          · subst h1 h2
            refine wp_region_quiet_forced ?_
            repeat (go_big_quiet_step (first | (go_at_call 41; with_reducible exact Calls.regrown_of (V2.out _)) | (go_at_call 42; with_reducible exact Calls.regrown_of (V3.out _ (below_step LB5.out (below_regrown _ _ _)))) | fail))
            refine wpQuiet_nil ?_; intro _ hw'; obtain ⟨⟨dq, osq⟩, hw''⟩ := hw'; subst hw''
            go_wp2
            go_roundg (LC - (k + 1))
            case measure => omega
            case rel => exact ⟨k + 1, s4, by go_num, by omega, L5.out.step (below_regrown _ _ _), Nat.le_trans hs5 (below_regrown _ _ _).size, own_over HOF.out (below_regrown _ _ _), by rw [HS.out]; simpa using own_over HO.out (below_regrown _ _ _)⟩
          · obtain rfl : b3 = true := by simpa using h3
            clear h3
            subst h1 h2
            refine wp_region_quiet_forced ?_
            repeat (go_big_quiet_step (first | (go_at_call 41; with_reducible exact Calls.regrown_of (V2.out _)) | (go_at_call 42; with_reducible exact Calls.regrown_of (V3.out _ (below_step LB5.out (below_regrown _ _ _)))) | fail))
            refine wpQuiet_nil ?_; intro _ hw'; obtain ⟨⟨dq, osq⟩, hw''⟩ := hw'; subst hw''
            go_wp2
            go_roundg (LC - (k + 1))
            case measure => omega
            case rel => exact ⟨k + 1, s4, by go_num, by omega, L5.out.step (below_regrown _ _ _), Nat.le_trans hs5 (below_regrown _ _ _).size, own_over HOF.out (below_regrown _ _ _), by rw [HS.out]; simpa using own_over HO.out (below_regrown _ _ _)⟩
          · obtain rfl : b3 = false := by simpa using h3
            clear h3
            subst h1 h2
            refine wp_region_quiet_forced ?_
            repeat (go_big_quiet_step (first | (go_at_call 41; with_reducible exact Calls.regrown_of (V2.out _)) | (go_at_call 42; with_reducible exact Calls.regrown_of (V3.out _ (below_step LB5.out (below_regrown _ _ _)))) | fail))
            refine wpQuiet_nil ?_; intro _ hw'; obtain ⟨⟨dq, osq⟩, hw''⟩ := hw'; subst hw''
            have l6 := L5.out.step (below_regrown W5 dq osq)
            have o6 := own_over HO.out (below_regrown W5 dq osq)
            have f6 := own_over HOF.out (below_regrown W5 dq osq)
            have hs6 : B2 ≤ (Sort.grow (redrawn W5 dq) osq).heap.size := Nat.le_trans hs5 (below_regrown _ _ _).size
            generalize Sort.grow (redrawn W5 dq) osq = W6 at *
            obtain ⟨_, _, _, _, g4⟩ := box5 l6.rv
            have L6 := Lib.hid (l6.step (below_alloc W6 (.cells #[.int .i64 (k : Int)] 3))); have O6 := Lib.hid (o6.alloc (.cells #[.int .i64 (k : Int)] 3)); have F6 := Lib.hid (f6.alloc (.cells #[.int .i64 (k : Int)] 3))
            clear l6 o6 f6 L5 HO HOF N0 N1 N2 M0 M1 M2 M3 P0 P1 P2 LB5
            go_wp2_with (first
              | (go_at_call 34; (with_reducible refine (add_one B2 _ F W6.heap.size (k : Int) _ (by simp; omega) O6.out (by simp) (by simp) HUP.out.1 HUP.out.2 (Nat.le_trans HLE.out (by omega))).mono ?_); rintro e w7 ⟨g7, c7, rfl, o7, hg7, _⟩; have l7 := L6.out.grow hg7 O6.out HBW.out; have j3 := (l7.rv).free 4; obtain ⟨_, _, _, _, jc⟩ := box5 l7.rv; have L7 := Lib.hid l7; have O7 := Lib.hid o7; have S7 := Lib.hid hg7.size; have F7 := Lib.hid (own_kept2 F6.out O6.out HBF.out hg7); clear l7 o7 hg7)
              | fail)
            go_roundg (LC - (k + 1))
            case measure => omega
            case rel => exact ⟨k + 1, _, by go_num, by omega, L7.out.put4 hgv _, by have h7 := S7.out; simp at h7 ⊢; omega, F7.out.kept (grown_set _ _ _ _) (.inr (fun e => own_row3 F7.out L7.out.rv (by decide) e.symm)), by rw [HS.out, show (if (true && true && !false) = true then [(k : Int)] else []) = [(k : Int)] from rfl]; have h7 := O7.out; rw [List.length_append] at h7 ⊢; exact h7.kept (grown_set _ _ _ _) (.inr (fun e => own_row3 O7.out L7.out.rv (by decide) e.symm))⟩
        · have hkL : LC = k := by omega
          subst hkL
          rw [← HCE.out] at ho
          have LS := Lib.hid hls; have HO := Lib.hid ho; have HOF := Lib.hid hoF
          obtain ⟨k0, k1, k2, k3, k4⟩ := box5 hls.rv
          have j0 := hls.r3.free 0; have j1 := hls.r3.free 1; have j2 := hls.r3.free 2; have j3 := hls.r3.free 3; have j4 := hls.r3.free 4
          obtain ⟨i0, i1, i2, i3, i4⟩ := box5 hls.r3
          obtain ⟨SA, sn, sc, hs3⟩ := own_form HOF.out
          obtain ⟨SB, sm, sd, hs4⟩ := own_form HO.out
          subst hs3 hs4
          clear hls ho hoF HCL HCS HCE
          go_wp2
          refine bodyPost_ret (res_v5 rfl rfl (((((LS.out.r3.stored 0 _).stored 1 _).stored 2 _).stored 3 _).stored 4 _)) rfl ?_
          have oF := own_put5 HOF.out LS.out.r3 (by decide) (.slice CA LC cc) (.slice RA LR rc) (.slice FA LF fc) (.slice SA sn sc) (.slice SB sm sd)
          have oC := own_put5 HO.out LS.out.r3 (by decide) (.slice CA LC cc) (.slice RA LR rc) (.slice FA LF fc) (.slice SA sn sc) (.slice SB sm sd)
          have bb := ((((LS.out.b.setCell (p := ⟨w.heap.size + 1 + 1, 0, none⟩) (by show w.heap.size ≤ w.heap.size + 1 + 1; omega) (.slice CA LC cc)).setCell (p := ⟨w.heap.size + 1 + 1, 1, none⟩) (by show w.heap.size ≤ w.heap.size + 1 + 1; omega) (.slice RA LR rc)).setCell (p := ⟨w.heap.size + 1 + 1, 2, none⟩) (by show w.heap.size ≤ w.heap.size + 1 + 1; omega) (.slice FA LF fc)).setCell (p := ⟨w.heap.size + 1 + 1, 3, none⟩) (by show w.heap.size ≤ w.heap.size + 1 + 1; omega) (.slice SA sn sc)).setCell (p := ⟨w.heap.size + 1 + 1, 4, none⟩) (by show w.heap.size ≤ w.heap.size + 1 + 1; omega) (.slice SB sm sd)
          have h1 := len_aF b ⟨th, sy, tm, kn⟩
          have h2 := len_aC b ⟨th, sy, tm, kn⟩
          rw [← HLF.out] at h1
          rw [← HLC.out] at h2
          exact ⟨_, _, rfl, own_V oF (by show _ ≤ 9223372036854775807; omega), own_V oC (by show _ ≤ 9223372036854775807; omega), bb⟩
end Go.Proofs.Ytiglkecmamnphaa
