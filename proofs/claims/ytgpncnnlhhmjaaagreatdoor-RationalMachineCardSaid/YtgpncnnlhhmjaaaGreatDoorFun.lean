/- Functions as values: operations and steps; the functions that make steps. -/
import Derived.Test.YtgpncnnlhhmjaaaGreatDoorOps
import Derived.Deep.LoopGhost
namespace Go.Proofs.YtgpncnnlhhmjaaaGreatDoor
open Go.RowKit

/-- A function value that is an operation of two integers. -/
def OpIs (V : Value) (T : ByteArray → ByteArray → ByteArray) (E : ByteArray → ByteArray → Int) : Prop :=
  ∃ k, V = .func (.func k) #[] #[] ∧ (∀ args W, (callFunc k args).run Tryz.prog W = .ok (.enter k args) W) ∧
    ∀ W, Tab W → ∀ a b, Calls Tryz.prog k #[.string a, .string b] W fun e w' => e = .returned (.tuple #[.string (T a b), .int .i64 (E a b)]) ∧ Below W.heap.size W w'
/-- A fraction, and what a step hands back, as values. -/
abbrev rv (n d : ByteArray) : Value := .agg #[.string n, .string d]
abbrev sv (s : St) : Value := .tuple #[.agg #[.string s.1, .string s.2.1], .int .i64 s.2.2]
/-- A function value that is the step F, in every world in which what lay in w0 lies as it did. -/
def StepIs (w0 : World) (V : Value) (F : Stp) : Prop :=
  ∃ k cb, V = .func (.func k) #[] cb ∧ (∀ args W, (callFunc k args).run Tryz.prog W = .ok (.enter k args) W) ∧
    ∀ W, Below w0.heap.size w0 W → ∀ n d, Calls Tryz.prog k (#[rv n d] ++ cb) W fun e w' => e = .returned (sv (F n d)) ∧ Below W.heap.size W w'
theorem StepIs.below {w W : World} {V : Value} {F : Stp} (h : StepIs w V F) (hb : Below w.heap.size w W) : StepIs W V F := by
  obtain ⟨k, cb, e, he, h⟩ := h
  exact ⟨k, cb, e, he, fun W' hb' => h W' (hb.trans (hb'.mono hb.size))⟩
theorem StepIs.shape {w : World} {V : Value} {F : Stp} (h : StepIs w V F) : ∃ f cb, V = .func (.func f) #[] cb := by
  obtain ⟨k, cb, e, _⟩ := h
  exact ⟨k, cb, e⟩
/-- A fraction's row. -/
def RRow (w : World) (g : Nat) (n d : ByteArray) : Prop := Row w g 23 #[.string n, .string d]
def RAny (w : World) (g : Nat) : Prop := ∃ n d, RRow w g n d
theorem RAny.eqs {w : World} {g : Nat} (h : RAny w g) : w.cell? ⟨g, 0, none⟩ = some (cellOf w ⟨g, 0, none⟩) ∧ w.cell? ⟨g, 1, none⟩ = some (cellOf w ⟨g, 1, none⟩) ∧ w.frozen? ⟨g, 0, none⟩ = false ∧ w.frozen? ⟨g, 1, none⟩ = false := by
  obtain ⟨n, d, h⟩ := h
  obtain ⟨k0, k1, f0, f1⟩ := two_cells h
  exact ⟨by rw [cellOf, k0]; rfl, by rw [cellOf, k1]; rfl, f0, f1⟩
theorem rat_put {w : World} {g : Nat} (h : RAny w g) (n d : ByteArray) : RRow ((w.setCell ⟨g, 0, none⟩ (.string n)).setCell ⟨g, 1, none⟩ (.string d)) g n d := by
  obtain ⟨n0, d0, h⟩ := h
  have h1 := Row.stored h 0 (.string n)
  have h2 := Row.stored h1 1 (.string d)
  exact h2

theorem load_rat {w : World} {g : Nat} {t : TypeId} {a b : Value} (h : Row w g t #[a, b]) : (loadVar 23 ⟨g, 0, none⟩).run Tryz.prog w = .ok (.agg #[a, b]) w := by
  obtain ⟨k0, k1, _, _⟩ := two_cells h
  simp [loadVar, go_sem, k0, k1]
section
variable {fn : Func} {p u : Tmp} {tmps : Array Value} {w : World} {g : Nat} {t : TypeId} {a b : Value}
theorem res_r (h : fn.results = #[.cell p 23]) (hp : tmps.getD p undef = .pointer (some ⟨g, 0, none⟩)) (hr : Row w g t #[a, b]) : (results fn tmps).run Tryz.prog w = .ok (.agg #[a, b]) w := by
  have hl := load_rat hr
  have ha := asAddr_ptr (w := w) hp
  simp only [results, h]
  simp only [List.size_toArray, List.length_cons, List.length_nil, Nat.reduceAdd, List.mapM_toArray, List.mapM_cons, List.mapM_nil]
  simp [Sem.run_bind, Result.andThen, ha, hl, -Array.getD_eq_getD_getElem?]
theorem res_rt (h : fn.results = #[.cell p 23, .tmp u]) (hp : tmps.getD p undef = .pointer (some ⟨g, 0, none⟩)) (hr : Row w g t #[a, b]) : (results fn tmps).run Tryz.prog w = .ok (.tuple #[.agg #[a, b], tmps.getD u undef]) w := by
  have hl := load_rat hr
  have ha := asAddr_ptr (w := w) hp
  simp only [results, h]
  simp [Sem.run_bind, Result.andThen, ha, hl, -Array.getD_eq_getD_getElem?]
end

set_option maxRecDepth 100000 in
theorem numerator_raw (k : Nat) (b : ByteArray) (w : World) :
    Calls Tryz.prog 96 #[.func (.func k) #[] #[], .string b] w fun e w' => e = .returned (.func (.func 120) #[] #[.pointer (some ⟨w.heap.size, 0, none⟩), .pointer (some ⟨w.heap.size + 1, 0, none⟩)]) ∧ w' = (w.alloc (.cells #[.func (.func k) #[] #[]] 106)).alloc (.cells #[.string b] 9) := by
  go_enter Tryz.func96, Tryz.ntmps96
  go_wp2
  go_ret
  exact ⟨rfl, rfl⟩
set_option maxRecDepth 100000 in
theorem denominator_raw (k : Nat) (b : ByteArray) (w : World) :
    Calls Tryz.prog 98 #[.func (.func k) #[] #[], .string b] w fun e w' => e = .returned (.func (.func 122) #[] #[.pointer (some ⟨w.heap.size, 0, none⟩), .pointer (some ⟨w.heap.size + 1, 0, none⟩)]) ∧ w' = (w.alloc (.cells #[.func (.func k) #[] #[]] 106)).alloc (.cells #[.string b] 9) := by
  go_enter Tryz.func98, Tryz.ntmps98
  go_wp2
  go_ret
  exact ⟨rfl, rfl⟩
set_option maxRecDepth 100000 in
theorem scale_raw (x y : ByteArray) (w : World) :
    Calls Tryz.prog 66 #[.string x, .string y] w fun e w' => e = .returned (.func (.func 95) #[] #[.pointer (some ⟨w.heap.size, 0, none⟩), .pointer (some ⟨w.heap.size + 1, 0, none⟩)]) ∧ w' = (w.alloc (.cells #[.string x] 9)).alloc (.cells #[.string y] 9) := by
  go_enter Tryz.func66, Tryz.ntmps66
  go_wp2
  go_ret
  exact ⟨rfl, rfl⟩
set_option maxRecDepth 100000 in
theorem cut_raw (x y : ByteArray) (w : World) :
    Calls Tryz.prog 83 #[.string x, .string y] w fun e w' => e = .returned (.func (.func 114) #[] #[.pointer (some ⟨w.heap.size + 1, 0, none⟩), .pointer (some ⟨w.heap.size, 0, none⟩)]) ∧ w' = (w.alloc (.cells #[.string x] 9)).alloc (.cells #[.string y] 9) := by
  go_enter Tryz.func83, Tryz.ntmps83
  go_wp2
  go_ret
  exact ⟨rfl, rfl⟩
set_option maxRecDepth 100000 in
theorem include_raw (k : Nat) (x y : ByteArray) (w : World) :
    Calls Tryz.prog 92 #[.func (.func k) #[] #[], .string x, .string y] w fun e w' => e = .returned (.func (.func 119) #[] #[.pointer (some ⟨w.heap.size + 1, 0, none⟩), .pointer (some ⟨w.heap.size + 1 + 1, 0, none⟩), .pointer (some ⟨w.heap.size, 0, none⟩)]) ∧ w' = ((w.alloc (.cells #[.func (.func k) #[] #[]] 106)).alloc (.cells #[.string x] 9)).alloc (.cells #[.string y] 9) := by
  go_enter Tryz.func92, Tryz.ntmps92
  go_wp2
  go_ret
  exact ⟨rfl, rfl⟩
set_option maxRecDepth 100000 in
theorem accept_raw (A : Option Addr) (L c : Nat) (w : World) :
    Calls Tryz.prog 65 #[.slice A L c] w fun e w' => e = .returned (.func (.func 94) #[] #[.pointer (some ⟨w.heap.size, 0, none⟩)]) ∧ w' = w.alloc (.cells #[.slice A L c] 30) := by
  go_enter Tryz.func65, Tryz.ntmps65
  go_wp2
  go_ret
  exact ⟨rfl, rfl⟩
set_option maxRecDepth 100000 in
set_option maxHeartbeats 4000000 in
theorem quot_any (a b : ByteArray) (w : World) (ht : Tab w) :
    Calls Tryz.prog 115 #[.string a, .string b] w fun e w' => e = .returned (.tuple #[.string (divQ a b), .int .i64 (divE a b)]) ∧ Below w.heap.size w w' := by
  have cD := Div_any a b w ht
  generalize divQ a b = q at *
  generalize divR a b = r at *
  generalize divE a b = x at *
  have CD := Lib.hid cD
  clear cD
  go_enter Tryz.func115, Tryz.ntmps115
  go_wp2_with (first | (go_at_call 50; (with_reducible refine CD.out.mono ?_); rintro e w1 ⟨rfl, hb1⟩) | fail)
  go_ret2
  exact ⟨rfl, hb1⟩
theorem op_add : OpIs (.func (.func 64) #[] #[]) addT addE := ⟨_, rfl, enters_of Tryz.func64 (by kernel_rfl) rfl, fun W h a b => add_any a b W h⟩
theorem op_sub : OpIs (.func (.func 67) #[] #[]) subT subE := ⟨_, rfl, enters_of Tryz.func67 (by kernel_rfl) rfl, fun W h a b => sub_any a b W h⟩
theorem op_mul : OpIs (.func (.func 97) #[] #[]) mulT mulE := ⟨_, rfl, enters_of Tryz.func97 (by kernel_rfl) rfl, fun W h a b => mul_any a b W h⟩
theorem op_quot : OpIs (.func (.func 115) #[] #[]) divQ divE := ⟨_, rfl, enters_of Tryz.func115 (by kernel_rfl) rfl, fun W h a b => quot_any a b W h⟩

set_option maxRecDepth 100000 in
set_option maxHeartbeats 8000000 in
/-- The step numerator: an operation on the numerator. -/
theorem num_step (k P1 P2 : Nat) (b n d T : ByteArray) (E : Int) (w : World) (he : ∀ args W, (callFunc k args).run Tryz.prog W = .ok (.enter k args) W)
    (h1 : w.cell? ⟨P1, 0, none⟩ = some (.func (.func k) #[] #[])) (h2 : w.cell? ⟨P2, 0, none⟩ = some (.string b)) (p1 : P1 < w.heap.size) (p2 : P2 < w.heap.size)
    (hc : ∀ W, Below w.heap.size w W → Calls Tryz.prog k #[.string n, .string b] W fun e w' => e = .returned (.tuple #[.string T, .int .i64 E]) ∧ Below W.heap.size W w') :
    Calls Tryz.prog 120 #[rv n d, .pointer (some ⟨P1, 0, none⟩), .pointer (some ⟨P2, 0, none⟩)] w fun e w' => e = .returned (sv (T, d, E)) ∧ Below w.heap.size w w' := by
  obtain ⟨w1, hw1⟩ : ∃ w1, w1 = (w.alloc (.cells #[.string n, .string d] 23)).alloc (.cells #[.string ⟨#[]⟩, .string ⟨#[]⟩] 23) := ⟨_, rfl⟩
  have hb : Below w.heap.size w w1 := by rw [hw1]; exact keep_alloc (below_alloc w _) _
  have r1 : RRow w1 w.heap.size n d := by rw [hw1]; exact (Row.made w _ _).later _
  have r2 : RRow w1 (w.heap.size + 1) ⟨#[]⟩ ⟨#[]⟩ := by rw [hw1]; exact Row.made_at _ _ _ (by simp)
  have k1 := (hb.cell (p := ⟨P1, 0, none⟩) p1).trans h1
  have k2 := (hb.cell (p := ⟨P2, 0, none⟩) p2).trans h2
  obtain ⟨a0, a1, _, _⟩ := two_cells r1
  have hC := hc w1 hb
  have HC := Lib.hid hC; have HB := Lib.hid hb; have R1 := Lib.hid r1; have R2 := Lib.hid r2
  clear hC hc hb r1 r2 h1 h2 p1 p2
  subst hw1
  go_enter Tryz.func120, Tryz.ntmps120
  go_wp2_with (first
    | (go_at_fn k; (refine HC.out.mono ?_); rintro e w2 ⟨rfl, hb2⟩; have R1' := Row.below R1.out hb2 R1.out.inside; have R2' := Row.below R2.out hb2 R2.out.inside; obtain ⟨j0, j1, _, _⟩ := two_cells R1'; obtain ⟨i0, i1, f0, f1⟩ := two_cells R2')
    | fail)
  (try simp only [Exit.inBlock, Exit.then])
  refine bodyPost_ret (res_rt rfl rfl (rat_put ⟨_, _, R2'⟩ _ _)) rfl ?_
  exact ⟨rfl, below_put (below_step HB.out hb2) (Nat.le_succ _) _ _⟩
set_option maxRecDepth 100000 in
set_option maxHeartbeats 8000000 in
/-- The step denominator: an operation on the denominator. -/
theorem den_step (k P1 P2 : Nat) (b n d T : ByteArray) (E : Int) (w : World) (he : ∀ args W, (callFunc k args).run Tryz.prog W = .ok (.enter k args) W)
    (h1 : w.cell? ⟨P1, 0, none⟩ = some (.func (.func k) #[] #[])) (h2 : w.cell? ⟨P2, 0, none⟩ = some (.string b)) (p1 : P1 < w.heap.size) (p2 : P2 < w.heap.size)
    (hc : ∀ W, Below w.heap.size w W → Calls Tryz.prog k #[.string d, .string b] W fun e w' => e = .returned (.tuple #[.string T, .int .i64 E]) ∧ Below W.heap.size W w') :
    Calls Tryz.prog 122 #[rv n d, .pointer (some ⟨P1, 0, none⟩), .pointer (some ⟨P2, 0, none⟩)] w fun e w' => e = .returned (sv (n, T, E)) ∧ Below w.heap.size w w' := by
  obtain ⟨w1, hw1⟩ : ∃ w1, w1 = (w.alloc (.cells #[.string n, .string d] 23)).alloc (.cells #[.string ⟨#[]⟩, .string ⟨#[]⟩] 23) := ⟨_, rfl⟩
  have hb : Below w.heap.size w w1 := by rw [hw1]; exact keep_alloc (below_alloc w _) _
  have r1 : RRow w1 w.heap.size n d := by rw [hw1]; exact (Row.made w _ _).later _
  have r2 : RRow w1 (w.heap.size + 1) ⟨#[]⟩ ⟨#[]⟩ := by rw [hw1]; exact Row.made_at _ _ _ (by simp)
  have k1 := (hb.cell (p := ⟨P1, 0, none⟩) p1).trans h1
  have k2 := (hb.cell (p := ⟨P2, 0, none⟩) p2).trans h2
  obtain ⟨a0, a1, _, _⟩ := two_cells r1
  have hC := hc w1 hb
  have HC := Lib.hid hC; have HB := Lib.hid hb; have R1 := Lib.hid r1; have R2 := Lib.hid r2
  clear hC hc hb r1 r2 h1 h2 p1 p2
  subst hw1
  go_enter Tryz.func122, Tryz.ntmps122
  go_wp2_with (first
    | (go_at_fn k; (refine HC.out.mono ?_); rintro e w2 ⟨rfl, hb2⟩; have R1' := Row.below R1.out hb2 R1.out.inside; have R2' := Row.below R2.out hb2 R2.out.inside; obtain ⟨j0, j1, _, _⟩ := two_cells R1'; obtain ⟨i0, i1, f0, f1⟩ := two_cells R2')
    | fail)
  (try simp only [Exit.inBlock, Exit.then])
  refine bodyPost_ret (res_rt rfl rfl (rat_put ⟨_, _, R2'⟩ _ _)) rfl ?_
  exact ⟨rfl, below_put (below_step HB.out hb2) (Nat.le_succ _) _ _⟩

theorem one_box (w : World) (o : Obj) (V : Value) (t : TypeId) (h : o = .cells #[V] t) : (w.alloc o).cell? ⟨w.heap.size, 0, none⟩ = some V := by
  subst h
  exact (Row.made w t #[V]).at rfl
theorem numerator_is {V : Value} {T : ByteArray → ByteArray → ByteArray} {E : ByteArray → ByteArray → Int} (hV : OpIs V T E) (b : ByteArray) (w : World) (ht : Tab w) :
    Calls Tryz.prog 96 #[V, .string b] w fun e w' => ∃ v, e = .returned v ∧ StepIs w' v (numF T E b) ∧ Below w.heap.size w w' := by
  obtain ⟨k, rfl, he, hc⟩ := hV
  refine (numerator_raw k b w).mono ?_
  rintro e w' ⟨rfl, rfl⟩
  have hb : Below w.heap.size w ((w.alloc (.cells #[.func (.func k) #[] #[]] 106)).alloc (.cells #[.string b] 9)) := keep_alloc (below_alloc w _) _
  refine ⟨_, rfl, ⟨_, _, rfl, enters_of Tryz.func120 (by kernel_rfl) rfl, fun W hW n d => ?_⟩, hb⟩
  have r1 : Row ((w.alloc (.cells #[.func (.func k) #[] #[]] 106)).alloc (.cells #[.string b] 9)) w.heap.size 106 #[.func (.func k) #[] #[]] := (Row.made w _ _).later _
  have r2 : Row ((w.alloc (.cells #[.func (.func k) #[] #[]] 106)).alloc (.cells #[.string b] 9)) (w.heap.size + 1) 9 #[.string b] := Row.made_at _ _ _ (by simp)
  have q1 := Row.below r1 hW r1.inside
  have q2 := Row.below r2 hW r2.inside
  exact num_step k _ _ b n d _ _ W he (q1.at rfl) (q2.at rfl) q1.inside q2.inside fun W' hW' => hc W' (((ht.below hb).below hW).below hW') n b
theorem denominator_is {V : Value} {T : ByteArray → ByteArray → ByteArray} {E : ByteArray → ByteArray → Int} (hV : OpIs V T E) (b : ByteArray) (w : World) (ht : Tab w) :
    Calls Tryz.prog 98 #[V, .string b] w fun e w' => ∃ v, e = .returned v ∧ StepIs w' v (denF T E b) ∧ Below w.heap.size w w' := by
  obtain ⟨k, rfl, he, hc⟩ := hV
  refine (denominator_raw k b w).mono ?_
  rintro e w' ⟨rfl, rfl⟩
  have hb : Below w.heap.size w ((w.alloc (.cells #[.func (.func k) #[] #[]] 106)).alloc (.cells #[.string b] 9)) := keep_alloc (below_alloc w _) _
  refine ⟨_, rfl, ⟨_, _, rfl, enters_of Tryz.func122 (by kernel_rfl) rfl, fun W hW n d => ?_⟩, hb⟩
  have r1 : Row ((w.alloc (.cells #[.func (.func k) #[] #[]] 106)).alloc (.cells #[.string b] 9)) w.heap.size 106 #[.func (.func k) #[] #[]] := (Row.made w _ _).later _
  have r2 : Row ((w.alloc (.cells #[.func (.func k) #[] #[]] 106)).alloc (.cells #[.string b] 9)) (w.heap.size + 1) 9 #[.string b] := Row.made_at _ _ _ (by simp)
  have q1 := Row.below r1 hW r1.inside
  have q2 := Row.below r2 hW r2.inside
  exact den_step k _ _ b n d _ _ W he (q1.at rfl) (q2.at rfl) q1.inside q2.inside fun W' hW' => hc W' (((ht.below hb).below hW).below hW') d b
end Go.Proofs.YtgpncnnlhhmjaaaGreatDoor
