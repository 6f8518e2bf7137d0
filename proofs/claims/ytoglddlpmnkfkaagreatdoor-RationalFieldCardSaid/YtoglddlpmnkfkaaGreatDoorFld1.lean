/- RationalField: the walk. -/
import Derived.Test.YtoglddlpmnkfkaaGreatDoorFldC
import Derived.Great.Walk
namespace Go.Proofs.YtoglddlpmnkfkaaGreatDoor
open Go.RowKit

/-- All that RationalField calls, and what its answers have to do with one another. -/
structure FldF (long : Bool) (A B C r0 r1 r2 r3 s1 s3 t0 t1 t2 t3 u0 u1 u2 u3 o1 o2 lf ac su wh bk ag : Option Rat) : Prop where
  c1 : Cl 15 #[rv (qtN A) (qtD A), rv (qtN B) (qtD B)] (F4 r0 r1 r2 r3)
  c2 : Cl 15 #[rv (qtN B) (qtD B), rv (qtN A) (qtD A)] (F4 r0 s1 r2 s3)
  c3 : Cl 15 #[rv (qtN B) (qtD B), rv (qtN C) (qtD C)] (F4 t0 t1 t2 t3)
  c4 : Cl 15 #[rv (qtN r0) (qtD r0), rv (qtN C) (qtD C)] (F4 u0 u1 u2 u3)
  c5 : Cl 38 #[rv (qtN A) (qtD A), rv (qtN t0) (qtD t0)] (.tuple #[.agg #[.string (qtN o1), .string (qtD o1)], .int .i64 (qtE o1)])
  c6 : Cl 39 #[rv (qtN A) (qtD A), rv (qtN t2) (qtD t2)] (.tuple #[.agg #[.string (qtN o2), .string (qtD o2)], .int .i64 (qtE o2)])
  c7 : Cl 39 #[rv (qtN r2) (qtD r2), rv (qtN C) (qtD C)] (.tuple #[.agg #[.string (qtN lf), .string (qtD lf)], .int .i64 (qtE lf)])
  c8 : Cl 39 #[rv (qtN A) (qtD A), rv (qtN C) (qtD C)] (.tuple #[.agg #[.string (qtN ac), .string (qtD ac)], .int .i64 (qtE ac)])
  c9 : Cl 38 #[rv (qtN ac) (qtD ac), rv (qtN t2) (qtD t2)] (.tuple #[.agg #[.string (qtN su), .string (qtD su)], .int .i64 (qtE su)])
  c10 : Cl 39 #[rv (qtN r0) (qtD r0), rv (qtN C) (qtD C)] (.tuple #[.agg #[.string (qtN wh), .string (qtD wh)], .int .i64 (qtE wh)])
  c11 : Cl 40 #[rv (qtN r0) (qtD r0), rv (qtN B) (qtD B)] (.tuple #[.agg #[.string (qtN bk), .string (qtD bk)], .int .i64 (qtE bk)])
  c12 : Cl 39 #[rv (qtN r3) (qtD r3), rv (qtN B) (qtD B)] (.tuple #[.agg #[.string (qtN ag), .string (qtD ag)], .int .i64 (qtE ag)])
  k1 : long = false → qtE r0 = 0 ∧ qtE r2 = 0
  k2 : qtE r0 = 0 → qtE t0 = 0 → qtE u0 = 0 → qtE o1 = 0 → u0 = o1
  k3 : qtE r2 = 0 → qtE t2 = 0 → qtE o2 = 0 → qtE lf = 0 → o2 = lf
  k4 : qtE r0 = 0 → qtE ac = 0 → qtE t2 = 0 → qtE su = 0 → qtE wh = 0 → su = wh
  k5 : qtE r0 = 0 → qtE bk = 0 → bk = A
  k6 : qtE r3 = 0 → qtE ag = 0 → ag = A
theorem fld_f {a b c : Rat} (ha : okO (some a) = true) (hb : okO (some b) = true) (hc : okO (some c) = true) {long : Bool} (hl : long = false → Tiny a ∧ Tiny b) :
    ∃ (A B C r0 r1 r2 r3 s1 s3 t0 t1 t2 t3 u0 u1 u2 u3 o1 o2 lf ac su wh bk ag : Option Rat), A = some a ∧ B = some b ∧ C = some c ∧ FldF long A B C r0 r1 r2 r3 s1 s3 t0 t1 t2 t3 u0 u1 u2 u3 o1 o2 lf ac su wh bk ag := by
  have kba := four_q hb ha
  rw [addO_comm b a, mulO_comm b a] at kba
  exact ⟨_, _, _, _, _, _, _, _, _, _, _, _, _, _, _, _, _, _, _, _, _, _, _, _, _, rfl, rfl, rfl, {
    c1 := four_q ha hb, c2 := kba, c3 := four_q hb hc, c4 := four_q (add_ok (some a) (some b)) hc
    c5 := fun _ h => add_q ha (add_ok (some b) (some c)) _ h, c6 := fun _ h => mul_q ha (mul_ok (some b) (some c)) _ h, c7 := fun _ h => mul_q (mul_ok (some a) (some b)) hc _ h
    c8 := fun _ h => mul_q ha hc _ h, c9 := fun _ h => add_q (mul_ok (some a) (some c)) (mul_ok (some b) (some c)) _ h, c10 := fun _ h => mul_q (add_ok (some a) (some b)) hc _ h
    c11 := fun _ h => sub_q (add_ok (some a) (some b)) hb _ h, c12 := fun _ h => mul_q (div_ok (some a) (some b)) hb _ h
    k1 := fun h => ⟨tiny_add (hl h).1 (hl h).2, tiny_mul (hl h).1 (hl h).2⟩
    k2 := fld_add, k3 := fld_mul, k4 := fld_dist, k5 := fld_back, k6 := fld_again }⟩
theorem row_setCells : ∀ (vs : List Value) (pre old : List Value) (W : World) (g : Nat) (t : TypeId), old.length = vs.length → Row W g t (pre ++ old).toArray → Row (W.setCells g pre.length vs) g t (pre ++ vs).toArray
  | [], pre, [], _, _, _, _, h => h
  | v :: vs, pre, x :: old, W, g, t, hl, h => by
    have h1 := h.stored pre.length v
    have e1 : ((pre ++ x :: old).toArray.setIfInBounds pre.length v) = ((pre ++ [v]) ++ old).toArray := by simp
    rw [e1] at h1
    have h2 := row_setCells vs (pre ++ [v]) old _ g t (by simpa using hl) h1
    rw [List.length_append, List.append_assoc] at h2
    exact h2
theorem row_apart : ∀ (vs : List Value) (o : Nat) (W : World) (b g : Nat) (t : TypeId) (C : Array Value), b ≠ g → Row W g t C → Row (W.setCells b o vs) g t C
  | [], _, _, _, _, _, _, _, h => h
  | v :: vs, o, W, b, g, t, C, hn, h => row_apart vs (o + 1) _ b g t C hn (h.aside (p := ⟨b, o, none⟩) hn v)
set_option maxHeartbeats 2000000 in
/-- Two new variables, of eight and of four cells, and what is stored into them. -/
theorem box84 {ops : Array Oper} {rest : List Oper} {a : Act} {w : World} {Q : Exit → Act → World → Prop} {x y : Nat} {o1 o2 o3 o4 : Oper} {p q : Operand} (v0 v1 v2 v3 v4 v5 v6 v7 u0 u1 u2 u3 : Value)
    (g1 : o1.guard = none) (g2 : o2.guard = none) (g3 : o3.guard = none) (g4 : o4.guard = none) (d1 : o1.dst = some x) (d2 : o2.dst = some y) (d3 : o3.dst = none) (d4 : o4.dst = none)
    (e1 : o1.op = .alloc 31) (e2 : o2.op = .alloc 33) (e3 : o3.op = .store 31 (.tmp x) p) (e4 : o4.op = .store 33 (.tmp y) q)
    (r1 : (execOp a.eval o1).run Tryz.prog w = .ok (.value (.pointer (some ⟨w.heap.size, 0, none⟩))) (w.alloc (.cells #[.string ⟨#[]⟩, .string ⟨#[]⟩, .string ⟨#[]⟩, .string ⟨#[]⟩, .string ⟨#[]⟩, .string ⟨#[]⟩, .string ⟨#[]⟩, .string ⟨#[]⟩] 31)))
    (r2 : ∀ (a' : Act) (w' : World), (execOp a'.eval o2).run Tryz.prog w' = .ok (.value (.pointer (some ⟨w'.heap.size, 0, none⟩))) (w'.alloc (.cells #[.int .i64 0, .int .i64 0, .int .i64 0, .int .i64 0] 33)))
    (hx : ((a.put (some x) (.pointer (some ⟨w.heap.size, 0, none⟩))).put (some y) (.pointer (some ⟨w.heap.size + 1, 0, none⟩))).eval (.tmp x) = .pointer (some ⟨w.heap.size, 0, none⟩))
    (hp : ((a.put (some x) (.pointer (some ⟨w.heap.size, 0, none⟩))).put (some y) (.pointer (some ⟨w.heap.size + 1, 0, none⟩))).eval p = .agg #[v0, v1, v2, v3, v4, v5, v6, v7])
    (hy : (((a.put (some x) (.pointer (some ⟨w.heap.size, 0, none⟩))).put (some y) (.pointer (some ⟨w.heap.size + 1, 0, none⟩))).put none undef).eval (.tmp y) = .pointer (some ⟨w.heap.size + 1, 0, none⟩))
    (hq : (((a.put (some x) (.pointer (some ⟨w.heap.size, 0, none⟩))).put (some y) (.pointer (some ⟨w.heap.size + 1, 0, none⟩))).put none undef).eval q = .agg #[u0, u1, u2, u3])
    (hv : ∀ v ∈ [v0, v1, v2, v3, v4, v5, v6, v7], v.oneCell' = true) (hu : ∀ v ∈ [u0, u1, u2, u3], v.oneCell' = true)
    (h : ∀ W, Below w.heap.size w W → Row W w.heap.size 31 #[v0, v1, v2, v3, v4, v5, v6, v7] → Row W (w.heap.size + 1) 33 #[u0, u1, u2, u3] →
      wpList Tryz.prog ops Q rest ((((a.put (some x) (.pointer (some ⟨w.heap.size, 0, none⟩))).put (some y) (.pointer (some ⟨w.heap.size + 1, 0, none⟩))).put none undef).put none undef) W) :
    wpList Tryz.prog ops Q (o1 :: o2 :: o3 :: o4 :: rest) a w := by
  refine Great.wpList_runTo g1 _ d1 _ _ r1 ?_
  refine Great.wpList_runTo g2 _ d2 _ _ (r2 _ _) ?_
  rw [World.size_alloc]
  have hr1 := (Row.made w 31 #[.string ⟨#[]⟩, .string ⟨#[]⟩, .string ⟨#[]⟩, .string ⟨#[]⟩, .string ⟨#[]⟩, .string ⟨#[]⟩, .string ⟨#[]⟩, .string ⟨#[]⟩]).later (.cells #[.int .i64 0, .int .i64 0, .int .i64 0, .int .i64 0] 33)
  have hr2 := Row.made_at (w.alloc (.cells #[.string ⟨#[]⟩, .string ⟨#[]⟩, .string ⟨#[]⟩, .string ⟨#[]⟩, .string ⟨#[]⟩, .string ⟨#[]⟩, .string ⟨#[]⟩, .string ⟨#[]⟩] 31)) 33 #[.int .i64 0, .int .i64 0, .int .i64 0, .int .i64 0] (World.size_alloc w _)
  have hb := keep_alloc (below_alloc w (.cells #[.string ⟨#[]⟩, .string ⟨#[]⟩, .string ⟨#[]⟩, .string ⟨#[]⟩, .string ⟨#[]⟩, .string ⟨#[]⟩, .string ⟨#[]⟩, .string ⟨#[]⟩] 31)) (.cells #[.int .i64 0, .int .i64 0, .int .i64 0, .int .i64 0] 33)
  generalize (w.alloc (.cells #[.string ⟨#[]⟩, .string ⟨#[]⟩, .string ⟨#[]⟩, .string ⟨#[]⟩, .string ⟨#[]⟩, .string ⟨#[]⟩, .string ⟨#[]⟩, .string ⟨#[]⟩] 31)).alloc (.cells #[.int .i64 0, .int .i64 0, .int .i64 0, .int .i64 0] 33) = W2 at *
  have t1 := row_there hr1 8 (by simp)
  have s1 := row_setCells [v0, v1, v2, v3, v4, v5, v6, v7] [] [.string ⟨#[]⟩, .string ⟨#[]⟩, .string ⟨#[]⟩, .string ⟨#[]⟩, .string ⟨#[]⟩, .string ⟨#[]⟩, .string ⟨#[]⟩, .string ⟨#[]⟩] W2 _ _ rfl hr1
  have s2 := row_apart [v0, v1, v2, v3, v4, v5, v6, v7] 0 W2 w.heap.size _ _ _ (by omega) hr2
  have hb2 := below_cells [v0, v1, v2, v3, v4, v5, v6, v7] 0 W2 (Nat.le_refl w.heap.size) hb
  have k1 := wpList_store_mid (P := Tryz.prog) (ops := ops) (rest := o4 :: rest) (Q := Q) g3 31 _ _ e3 w.heap.size 0 #[v0, v1, v2, v3, v4, v5, v6, v7] hx hp t1 (by kernel_rfl) (all_oneCell_toArray hv)
  refine k1 ?_
  clear k1
  rw [d3]
  generalize hW3 : W2.setCells w.heap.size 0 (#[v0, v1, v2, v3, v4, v5, v6, v7] : Array Value).toList = W3
  have s1' : Row W3 w.heap.size 31 #[v0, v1, v2, v3, v4, v5, v6, v7] := by rw [← hW3]; exact s1
  have s2' : Row W3 (w.heap.size + 1) 33 #[.int .i64 0, .int .i64 0, .int .i64 0, .int .i64 0] := by rw [← hW3]; exact s2
  have hb3 : Below w.heap.size w W3 := by rw [← hW3]; exact hb2
  clear hW3 s1 s2 hb2 t1 hr1 hr2 hb
  have t2 := row_there s2' 4 (by simp)
  have k2 := wpList_store_mid (P := Tryz.prog) (ops := ops) (rest := rest) (Q := Q) g4 33 _ _ e4 (w.heap.size + 1) 0 #[u0, u1, u2, u3] hy hq t2 (by kernel_rfl) (all_oneCell_toArray hu)
  refine k2 ?_
  clear k2
  rw [d4]
  refine h _ (below_cells [u0, u1, u2, u3] 0 W3 (by omega) hb3) (row_apart [u0, u1, u2, u3] 0 W3 (w.heap.size + 1) _ _ _ (by omega) s1') ?_
  exact row_setCells [u0, u1, u2, u3] [] [.int .i64 0, .int .i64 0, .int .i64 0, .int .i64 0] W3 _ _ rfl s2'

section
variable {P : Program} {ops : Array Oper} {C : World → Prop} {Q : Exit → Act → World → Prop}
/-- A list whose beginning only reads, by the quiet walk. -/
theorem wpList_quiet_pre : ∀ (l m : List Oper) (a : Act) (w : World), C w → wpQuiet P ops C (fun a' => ∀ w', C w' → wpList P ops Q m a' w') l a → wpList P ops Q (l ++ m) a w
  | [], _, _, w, hw, h => h w hw
  | o :: rest, m, a, w, hw, h => by
    rw [List.cons_append]
    unfold wpList
    unfold wpQuiet at h
    split
    · rename_i hwant
      rw [if_pos hwant] at h
      exact .inl (Oper.wp_of_quiet hw (fun a w' hw' hq => wpList_quiet_pre rest m a w' hw' hq) h)
    · rename_i hn
      rw [if_neg hn] at h
      exact wpList_quiet_pre rest m _ w hw h
theorem wp_region_quiet_pre (n : Nat) {id : Nat} {a : Act} {w : World} {l : List Oper} (h : wpQuiet P l.toArray (fun w' => ∃ p : Regrown, w' = Sort.grow (redrawn w p.d) p.os) (fun a' => ∀ w', (∃ p : Regrown, w' = Sort.grow (redrawn w p.d) p.os) → wpList P l.toArray Q (l.drop n) a' w') (l.take n) a) : (Code.region id l.toArray false).wp P Q a w :=
  wp_region_lit (by
    have := wpList_quiet_pre (P := P) (ops := l.toArray) (Q := Q) (l.take n) (l.drop n) a w ⟨⟨w.drawn, #[]⟩, by rw [Sort.grow_empty]; rfl⟩ h
    rwa [List.take_append_drop] at this)
end
set_option maxHeartbeats 2000000 in
/-- A new variable of two cells, and what is stored into it. -/
theorem box2 {ops : Array Oper} {rest : List Oper} {a : Act} {w : World} {Q : Exit → Act → World → Prop} {x : Nat} {o1 o3 : Oper} {p : Operand} (v0 v1 : ByteArray)
    (g1 : o1.guard = none) (g3 : o3.guard = none) (d1 : o1.dst = some x) (d3 : o3.dst = none)
    (e3 : o3.op = .store 23 (.tmp x) p)
    (r1 : (execOp a.eval o1).run Tryz.prog w = .ok (.value (.pointer (some ⟨w.heap.size, 0, none⟩))) (w.alloc (.cells #[.string ⟨#[]⟩, .string ⟨#[]⟩] 23)))
    (hx : (a.put (some x) (.pointer (some ⟨w.heap.size, 0, none⟩))).eval (.tmp x) = .pointer (some ⟨w.heap.size, 0, none⟩))
    (hp : (a.put (some x) (.pointer (some ⟨w.heap.size, 0, none⟩))).eval p = .agg #[.string v0, .string v1])
    (h : ∀ W, Below w.heap.size w W → Row W w.heap.size 23 #[.string v0, .string v1] →
      wpList Tryz.prog ops Q rest ((a.put (some x) (.pointer (some ⟨w.heap.size, 0, none⟩))).put none undef) W) :
    wpList Tryz.prog ops Q (o1 :: o3 :: rest) a w := by
  refine Great.wpList_runTo g1 _ d1 _ _ r1 ?_
  have hr1 := Row.made w 23 #[.string ⟨#[]⟩, .string ⟨#[]⟩]
  have hb := below_alloc w (.cells #[.string ⟨#[]⟩, .string ⟨#[]⟩] 23)
  generalize w.alloc (.cells #[.string ⟨#[]⟩, .string ⟨#[]⟩] 23) = W2 at *
  have t1 := row_there hr1 2 (by simp)
  have s1 := row_setCells [.string v0, .string v1] [] [.string ⟨#[]⟩, .string ⟨#[]⟩] W2 _ _ rfl hr1
  have hb2 := below_cells [.string v0, .string v1] 0 W2 (Nat.le_refl w.heap.size) hb
  have k1 := wpList_store_mid (P := Tryz.prog) (ops := ops) (rest := rest) (Q := Q) g3 23 _ _ e3 w.heap.size 0 #[.string v0, .string v1] hx hp t1 (by kernel_rfl) (all_oneCell_toArray (cs := [.string v0, .string v1]) (by simp [Value.oneCell']))
  refine k1 ?_
  rw [d3]
  exact h _ hb2 s1
theorem Gv.two2 {w W X : World} {l : List (Nat × TypeId × Array Value)} {C : Array Value} (h : Gv w l W) (hb : Below W.heap.size W X) (h1 : Row X W.heap.size 23 C) : Gv w ((W.heap.size, 23, C) :: l) X := ⟨below_step h.1 hb, h1, h.2.over hb⟩
theorem Gv.b {w W : World} {l : List (Nat × TypeId × Array Value)} (h : Gv w l W) : Below w.heap.size w W := h.1
theorem Gv.two84 {w W X : World} {l : List (Nat × TypeId × Array Value)} {C D : Array Value} (h : Gv w l W) (hb : Below W.heap.size W X) (h1 : Row X W.heap.size 31 C) (h2 : Row X (W.heap.size + 1) 33 D) : Gv w ((W.heap.size, 31, C) :: (W.heap.size + 1, 33, D) :: l) X := ⟨below_step h.1 hb, h1, h2, h.2.over hb⟩
set_option maxRecDepth 1000000 in
set_option maxHeartbeats 40000000 in
theorem field_walk (x0 x1 x2 x3 y0 y1 y2 y3 z0 z1 : Int) (long : Bool) (hx0 : I64 x0) (hx1 : I64 x1) (hx2 : I64 x2) (hx3 : I64 x3) (hy0 : I64 y0) (hy1 : I64 y1) (hy2 : I64 y2) (hy3 : I64 y3) (hz0 : I64 z0) (hz1 : I64 z1) (w : World) (ht : Tab w)
    (hsane : ∀ W, Tab W → Calls Tryz.prog 11 #[] W fun e w' => e = .returned (.bool true) ∧ Below W.heap.size W w') :
    Calls Tryz.prog 6 #[.agg #[.int .i64 x0, .int .i64 x1, .int .i64 x2, .int .i64 x3], .agg #[.int .i64 y0, .int .i64 y1, .int .i64 y2, .int .i64 y3], .agg #[.int .i64 z0, .int .i64 z1], .bool long] w fun e w' => e = .returned (.bool true) ∧ Below w.heap.size w w' := by
  have cX := fun W => long_nd x0 x1 x2 x3 hx0 hx1 hx2 hx3 W
  have cY := fun W => long_nd y0 y1 y2 y3 hy0 hy1 hy2 hy3 W
  have cA := fun W => small_go x0 x1 hx0 hx1 W
  have cB := fun W => small_go y0 y1 hy0 hy1 W
  have cC := fun W => small_go z0 z1 hz0 hz1 W
  have ta := tiny_sm x0 x1
  have tb := tiny_sm y0 y1
  have tc := tiny_sm z0 z1
  generalize smQ x0 x1 = sa at *
  generalize smQ y0 y1 = sb at *
  generalize smQ z0 z1 = sc at *
  obtain ⟨Nc, hNc⟩ : ∃ x, x = qtN (some sc) := ⟨_, rfl⟩
  obtain ⟨Dc, hDc⟩ : ∃ x, x = qtD (some sc) := ⟨_, rfl⟩
  obtain ⟨Mb, hMb⟩ : ∃ x, x = qtN (some sb) := ⟨_, rfl⟩
  obtain ⟨Eb, hEb⟩ : ∃ x, x = qtD (some sb) := ⟨_, rfl⟩
  obtain ⟨Ma, hMa⟩ : ∃ x, x = qtN (some sa) := ⟨_, rfl⟩
  obtain ⟨Ea, hEa⟩ : ∃ x, x = qtD (some sa) := ⟨_, rfl⟩
  have cA' : ∀ W, Calls Tryz.prog 14 #[.agg #[.int .i64 x0, .int .i64 x1]] W fun e w' => e = .returned (rv Ma Ea) ∧ Below W.heap.size W w' := fun W => by rw [hMa, hEa]; exact cA W
  have cB' : ∀ W, Calls Tryz.prog 14 #[.agg #[.int .i64 y0, .int .i64 y1]] W fun e w' => e = .returned (rv Mb Eb) ∧ Below W.heap.size W w' := fun W => by rw [hMb, hEb]; exact cB W
  have cC' : ∀ W, Calls Tryz.prog 14 #[.agg #[.int .i64 z0, .int .i64 z1]] W fun e w' => e = .returned (rv Nc Dc) ∧ Below W.heap.size W w' := fun W => by rw [hNc, hDc]; exact cC W
  have TXA := Lib.hid (And.intro hMa hEa); have TXB := Lib.hid (And.intro hMb hEb); have TXC := Lib.hid (And.intro hNc hDc)
  clear hMa hEa hMb hEb hNc hDc
  have a0 : AR3 w (A4 x0 x1 x2 x3) (A4 y0 y1 y2 y3) #[.int .i64 z0, .int .i64 z1] (((w.alloc (.cells (A4 x0 x1 x2 x3) 24)).alloc (.cells (A4 y0 y1 y2 y3) 24)).alloc (.cells #[.int .i64 z0, .int .i64 z1] 25)) :=
    ⟨((Row.made w _ _).later _).later _, (Row.made_at _ _ _ (by simp)).later _, Row.made_at _ _ _ (by simp)⟩
  have v0 : Iv w [] (((w.alloc (.cells (A4 x0 x1 x2 x3) 24)).alloc (.cells (A4 y0 y1 y2 y3) 24)).alloc (.cells #[.int .i64 z0, .int .i64 z1] 25)) := ⟨keep_alloc (keep_alloc (below_alloc w _) _) _, trivial⟩
  have T0 := Lib.hid ht; have CS := Lib.hid hsane; have CX := Lib.hid cX; have CY := Lib.hid cY; have CA := Lib.hid cA'; have CB := Lib.hid cB'; have CC := Lib.hid cC'; have TA := Lib.hid ta; have TB := Lib.hid tb; have TC := Lib.hid tc; have V0 := v0; have A0 := Lib.hid a0; have P0 := Lib.hid (ht.below v0.b)
  clear ht hsane cX cY cA cB cC cA' cB' cC' a0 v0 ta tb tc hx0 hx1 hx2 hx3 hy0 hy1 hy2 hy3 hz0 hz1
  go_enter Tryz.func6, Tryz.ntmps6
  go_upto_if 52 with (first
    | (go_at_call 11; (with_reducible refine (CS.out _ P0.out).mono ?_); rintro e w1 ⟨rfl, b1⟩; have V1 := Iv.step V0 b1; have A1 := Lib.hid (AR3.over A0.out b1); obtain ⟨ca0, ca1, ca2, ca3⟩ := four_cells A1.out.1)
    | (go_at_call 14; (with_reducible refine (CA.out _).mono ?_); rintro e w2 ⟨rfl, b2⟩; have V2 := Iv.push (Iv.step V1 b2) Ma Ea; have A2 := Lib.hid (AR3.over (AR3.over A1.out b2) (below_alloc w2 (.cells #[.string Ma, .string Ea] 23))); obtain ⟨cb0, cb1, cb2, cb3⟩ := four_cells A2.out.2.1; have lt0 := (AR3.over A1.out b2).2.2.inside; clear ca0 ca1 ca2 ca3)
    | (go_at_call 14; (with_reducible refine (CB.out _).mono ?_); rintro e w3 ⟨rfl, b3⟩; have F3 := Iv.new (Iv.step V2 b3); have V3 := Iv.push (Iv.step V2 b3) Mb Eb; have A3 := Lib.hid (AR3.over (AR3.over A2.out b3) (below_alloc w3 (.cells #[.string Mb, .string Eb] 23))); obtain ⟨cc0, cc1, _, _⟩ := two_cells A3.out.2.2; clear cb0 cb1 cb2 cb3)
    | (go_at_call 14; (with_reducible refine (CC.out _).mono ?_); rintro e w4 ⟨rfl, b4⟩; have F4 := Iv.new (Iv.step V3 b4); have V4 := Iv.push (Iv.step V3 b4) Nc Dc; have A4 := Lib.hid (AR3.over (AR3.over A3.out b4) (below_alloc w4 (.cells #[.string Nc, .string Dc] 23))); clear cc0 cc1)
    | fail)
  have lt1 : w2.heap.size < w3.heap.size := F3.1 _ (List.mem_cons_self ..)
  have lt2 : w3.heap.size < w4.heap.size := F4.1 _ (List.mem_cons_self ..)
  have le0 : w.heap.size ≤ w2.heap.size := (Iv.b (Iv.step V1 b2)).size
  obtain ⟨WB, hWB⟩ : ∃ WB, WB = w4.alloc (.cells #[.string Nc, .string Dc] 23) := ⟨_, rfl⟩
  rw [← hWB] at V4 A4 ⊢
  have VB := Lib.hid V4
  clear hWB V0 V1 V2 V3 V4 A0 A1 A2 A3 b1 b2 b3 b4 F3 F4 CS CA CB CC P0
  go_cut [] (fun W => ∃ (a b : Rat) (Na Da Nb Db : ByteArray), okO (some a) = true ∧ okO (some b) = true ∧ (long = false → Tiny a ∧ Tiny b) ∧ (Na = qtN (some a) ∧ Da = qtD (some a)) ∧ (Nb = qtN (some b) ∧ Db = qtD (some b)) ∧ Iv w ((w4.heap.size, Nc, Dc) :: (w3.heap.size, Nb, Db) :: (w2.heap.size, Na, Da) :: []) W)
  case first => as_aux_lemma =>
    cases long
    · go_wp2
      go_meet
      case rel => exact ⟨sa, sb, _, _, _, _, TA.out.2, TB.out.2, fun _ => ⟨TA.out.1, TB.out.1⟩, TXA.out, TXB.out, VB.out⟩
    · obtain ⟨ca0, ca1, ca2, ca3⟩ := four_cells A4.out.1
      go_upto_region 7 with (first
        | (go_at_call 13; (with_reducible refine (CX.out _).mono ?_); rintro e w5 ⟨N1, D1, rfl, hL1, b5⟩; have HQ1 := Lib.hid hL1; clear hL1; have H5 := Iv.step VB.out b5; obtain ⟨_, _, fz0, fz1⟩ := two_cells H5.2.2.2.1; have qq5 := Iv.eqs H5; simp only [Cx] at qq5; have V5 := Iv.u3 H5 le0 (by omega) (by omega) N1 D1; have A5 := Lib.hid (AR3.over A4.out b5); clear ca0 ca1 ca2 ca3)
        | fail)
      have cy := num_far A5.out.2.1 (show w2.heap.size ≠ w.heap.size + 1 by omega) (.string N1) (.string D1)
      obtain ⟨W5, hW5⟩ : ∃ W5, W5 = (w5.setCell ⟨w2.heap.size, 0, none⟩ (.string N1)).setCell ⟨w2.heap.size, 1, none⟩ (.string D1) := ⟨_, rfl⟩
      rw [← hW5] at V5 cy ⊢
      clear hW5 fz0 fz1 qq5 H5
      obtain ⟨cb0, cb1, cb2, cb3⟩ := four_cells cy
      go_wp2_with (first
        | (go_at_call 13; (with_reducible refine (CY.out _).mono ?_); rintro e w6 ⟨N2, D2, rfl, hL2, b6⟩; have HQ2 := Lib.hid hL2; clear hL2; have H6 := Iv.step V5 b6; obtain ⟨_, _, fy0, fy1⟩ := two_cells H6.2.2.1; have qq6 := Iv.eqs H6; simp only [Cx] at qq6; have V6 := Iv.u2 H6 (by omega) (by omega) (by omega) N2 D2)
        | fail)
      go_meet
      obtain ⟨a, ha1, ha2, ha3, ha4⟩ := HQ1.out
      obtain ⟨b, hb1, hb2, hb3, hb4⟩ := HQ2.out
      case rel => exact ⟨a, b, N1, D1, N2, D2, lq_ok ha3 ha4, lq_ok hb3 hb4, fun h => (by cases h), ⟨ha1, ha2⟩, ⟨hb1, hb2⟩, V6⟩
  case rest => as_aux_lemma =>
  obtain ⟨a, b, Na, Da, Nb, Db, oka, okb, hl, ⟨rfl, rfl⟩, ⟨rfl, rfl⟩, V7⟩ := hcut
  have okc := TC.out.2
  obtain ⟨rfl, rfl⟩ := TXC.out
  obtain ⟨A, B, C, r0, r1, r2, r3, s1, s3, t0, t1, t2, t3, u0, u1, u2, u3, o1, o2, lf, ac, su, wh, bk, ag, hA, hB, hC, hF⟩ := fld_f oka okb okc hl
  rw [← hA, ← hB, ← hC] at V7
  have gx : Gv w ((w4.heap.size, 23, #[.string (qtN C), .string (qtD C)]) :: (w3.heap.size, 23, #[.string (qtN B), .string (qtD B)]) :: (w2.heap.size, 23, #[.string (qtN A), .string (qtD A)]) :: []) wc := ⟨V7.1, V7.2.1, V7.2.2.1, V7.2.2.2.1, trivial⟩
  have F := Lib.hid hF; have G0 := Lib.hid gx; have T := T0
  clear hA hB hC hF gx okc oka okb hl V7 TXA TXB TXC VB A4 TA TB TC CX CY lt1 lt2 le0 lt0
  obtain ⟨W0, hW0⟩ : ∃ W0, W0 = wc := ⟨_, rfl⟩
  rw [← hW0] at G0 ⊢
  clear hW0
  have f0 := (G0.out.2.2.2.1).at (i := 0) (v := .string (qtN A)) rfl; have f1 := (G0.out.2.2.2.1).at (i := 1) (v := .string (qtD A)) rfl; have f2 := (G0.out.2.2.1).at (i := 0) (v := .string (qtN B)) rfl; have f3 := (G0.out.2.2.1).at (i := 1) (v := .string (qtD B)) rfl
  have Kf0 := cell_regrown f0; have Kf1 := cell_regrown f1; have Kf2 := cell_regrown f2; have Kf3 := cell_regrown f3
  clear f0 f1 f2 f3
  go_upto_region 8 with (fail)
  refine wp_region_quiet_pre 6 ?_
  dsimp only [List.take_succ_cons, List.take_zero, List.drop_succ_cons, List.drop_zero]
  repeat (go_big_quiet_step (first | (go_at_call 15; with_reducible exact Calls.regrown_of (F.out.c1 _ (T.out.below (Gv.b (Gv.step G0.out (below_regrown _ _ _)))))) | fail))
  refine wpQuiet_nil ?_; intro _ hw'; obtain ⟨⟨dq, osq⟩, hw''⟩ := hw'
  have H5 := Lib.hid (Gv.step G0.out (below_regrown W0 dq osq))
  rw [← hw''] at H5
  rename_i v5
  clear hw'' G0 Kf0 Kf1 Kf2 Kf3
  refine box84 (.string (qtN r0)) (.string (qtD r0)) (.string (qtN r1)) (.string (qtD r1)) (.string (qtN r2)) (.string (qtD r2)) (.string (qtN r3)) (.string (qtD r3)) (.int .i64 (qtE r0)) (.int .i64 (qtE r1)) (.int .i64 (qtE r2)) (.int .i64 (qtE r3)) rfl rfl rfl rfl rfl rfl rfl rfl rfl rfl rfl rfl (by kernel_rfl) (fun _ _ => by kernel_rfl) rfl rfl rfl rfl (by simp [Value.oneCell']) (by simp [Value.oneCell']) ?_; intro W5 b1 r1 r2; have G5 := Lib.hid (Gv.two84 H5.out b1 r1 r2); clear b1 r1 r2 H5
  refine wpList_nil ?_
  simp only [Act.put, List.setIfInBounds_toArray, List.set_cons_zero, List.set_cons_succ]
  have f0 := (G5.out.2.2.2.2.1).at (i := 0) (v := .string (qtN B)) rfl; have f1 := (G5.out.2.2.2.2.1).at (i := 1) (v := .string (qtD B)) rfl; have f2 := (G5.out.2.2.2.2.2.1).at (i := 0) (v := .string (qtN A)) rfl; have f3 := (G5.out.2.2.2.2.2.1).at (i := 1) (v := .string (qtD A)) rfl
  have Kf0 := cell_regrown f0; have Kf1 := cell_regrown f1; have Kf2 := cell_regrown f2; have Kf3 := cell_regrown f3
  clear f0 f1 f2 f3
  go_upto_region 9 with (fail)
  refine wp_region_quiet_pre 6 ?_
  dsimp only [List.take_succ_cons, List.take_zero, List.drop_succ_cons, List.drop_zero]
  repeat (go_big_quiet_step (first | (go_at_call 15; with_reducible exact Calls.regrown_of (F.out.c2 _ (T.out.below (Gv.b (Gv.step G5.out (below_regrown _ _ _)))))) | fail))
  refine wpQuiet_nil ?_; intro _ hw'; obtain ⟨⟨dq, osq⟩, hw''⟩ := hw'
  have H6 := Lib.hid (Gv.step G5.out (below_regrown W5 dq osq))
  rw [← hw''] at H6
  rename_i v6
  clear hw'' G5 Kf0 Kf1 Kf2 Kf3
  refine box84 (.string (qtN r0)) (.string (qtD r0)) (.string (qtN s1)) (.string (qtD s1)) (.string (qtN r2)) (.string (qtD r2)) (.string (qtN s3)) (.string (qtD s3)) (.int .i64 (qtE r0)) (.int .i64 (qtE s1)) (.int .i64 (qtE r2)) (.int .i64 (qtE s3)) rfl rfl rfl rfl rfl rfl rfl rfl rfl rfl rfl rfl (by kernel_rfl) (fun _ _ => by kernel_rfl) rfl rfl rfl rfl (by simp [Value.oneCell']) (by simp [Value.oneCell']) ?_; intro W6 b1 r1 r2; have G6 := Lib.hid (Gv.two84 H6.out b1 r1 r2); clear b1 r1 r2 H6
  refine wpList_nil ?_
  simp only [Act.put, List.setIfInBounds_toArray, List.set_cons_zero, List.set_cons_succ]
  have f0 := (G6.out.2.2.2.1).at (i := 0) (v := .string (qtN r0)) rfl; have f1 := (G6.out.2.2.2.1).at (i := 1) (v := .string (qtD r0)) rfl; have f2 := (G6.out.2.2.2.1).at (i := 4) (v := .string (qtN r2)) rfl; have f3 := (G6.out.2.2.2.1).at (i := 5) (v := .string (qtD r2)) rfl; have f4 := (G6.out.2.1).at (i := 0) (v := .string (qtN r0)) rfl; have f5 := (G6.out.2.1).at (i := 1) (v := .string (qtD r0)) rfl; have f6 := (G6.out.2.1).at (i := 4) (v := .string (qtN r2)) rfl; have f7 := (G6.out.2.1).at (i := 5) (v := .string (qtD r2)) rfl; have f8 := (G6.out.2.2.2.2.1).at (i := 0) (v := .int .i64 (qtE r0)) rfl; have f9 := (G6.out.2.2.2.2.1).at (i := 2) (v := .int .i64 (qtE r2)) rfl; have f10 := (G6.out.2.2.1).at (i := 0) (v := .int .i64 (qtE r0)) rfl; have f11 := (G6.out.2.2.1).at (i := 2) (v := .int .i64 (qtE r2)) rfl
  have Kf0 := cell_regrown f0; have Kf1 := cell_regrown f1; have Kf2 := cell_regrown f2; have Kf3 := cell_regrown f3; have Kf4 := cell_regrown f4; have Kf5 := cell_regrown f5; have Kf6 := cell_regrown f6; have Kf7 := cell_regrown f7; have Kf8 := cell_regrown f8; have Kf9 := cell_regrown f9; have Kf10 := cell_regrown f10; have Kf11 := cell_regrown f11
  clear f0 f1 f2 f3 f4 f5 f6 f7 f8 f9 f10 f11
  go_upto_region 10 with (fail)
  go_cut [108] (fun s W => s = .bool false ∧ Gv w ((v6.heap.size, 31, #[.string (qtN r0), .string (qtD r0), .string (qtN s1), .string (qtD s1), .string (qtN r2), .string (qtD r2), .string (qtN s3), .string (qtD s3)]) :: (v6.heap.size + 1, 33, #[.int .i64 (qtE r0), .int .i64 (qtE s1), .int .i64 (qtE r2), .int .i64 (qtE s3)]) :: (v5.heap.size, 31, #[.string (qtN r0), .string (qtD r0), .string (qtN r1), .string (qtD r1), .string (qtN r2), .string (qtD r2), .string (qtN r3), .string (qtD r3)]) :: (v5.heap.size + 1, 33, #[.int .i64 (qtE r0), .int .i64 (qtE r1), .int .i64 (qtE r2), .int .i64 (qtE r3)]) :: (w4.heap.size, 23, #[.string (qtN C), .string (qtD C)]) :: (w3.heap.size, 23, #[.string (qtN B), .string (qtD B)]) :: (w2.heap.size, 23, #[.string (qtN A), .string (qtD A)]) :: []) W)
  case first => as_aux_lemma =>
    cases long
    · obtain ⟨z0, z1⟩ := F.out.k1 rfl
      refine wp_region_quiet_forced ?_
      repeat (go_big_quiet_step (fail))
      refine wpQuiet_nil ?_; intro _ hw'; obtain ⟨⟨dq, osq⟩, hw''⟩ := hw'; subst hw''
      go_wp2_with fail
      go_meet
      case rel => exact ⟨rfl, Gv.step G6.out (below_regrown _ _ _)⟩
    ·
      refine wp_region_quiet_forced ?_
      repeat (go_big_quiet_step (fail))
      refine wpQuiet_nil ?_; intro _ hw'; obtain ⟨⟨dq, osq⟩, hw''⟩ := hw'; subst hw''
      go_wp2_with fail
      go_meet
      case rel => exact ⟨rfl, Gv.step G6.out (below_regrown _ _ _)⟩
  case rest => as_aux_lemma =>
  obtain ⟨rfl, hg⟩ := hcut
  have G7 := Lib.hid hg
  clear hg Kf0 Kf1 Kf2 Kf3 Kf4 Kf5 Kf6 Kf7 Kf8 Kf9 Kf10 Kf11
  clear G6
  obtain ⟨W7, hW⟩ : ∃ W, W = wc := ⟨_, rfl⟩
  rw [← hW] at G7 ⊢
  clear hW
  have f0 := (G7.out.2.2.2.2.2.2.1).at (i := 0) (v := .string (qtN B)) rfl; have f1 := (G7.out.2.2.2.2.2.2.1).at (i := 1) (v := .string (qtD B)) rfl; have f2 := (G7.out.2.2.2.2.2.1).at (i := 0) (v := .string (qtN C)) rfl; have f3 := (G7.out.2.2.2.2.2.1).at (i := 1) (v := .string (qtD C)) rfl
  have Kf0 := cell_regrown f0; have Kf1 := cell_regrown f1; have Kf2 := cell_regrown f2; have Kf3 := cell_regrown f3
  clear f0 f1 f2 f3
  go_upto_region 12 with (fail)
  refine wp_region_quiet_pre 6 ?_
  dsimp only [List.take_succ_cons, List.take_zero, List.drop_succ_cons, List.drop_zero]
  repeat (go_big_quiet_step (first | (go_at_call 15; with_reducible exact Calls.regrown_of (F.out.c3 _ (T.out.below (Gv.b (Gv.step G7.out (below_regrown _ _ _)))))) | fail))
  refine wpQuiet_nil ?_; intro _ hw'; obtain ⟨⟨dq, osq⟩, hw''⟩ := hw'
  have H8 := Lib.hid (Gv.step G7.out (below_regrown W7 dq osq))
  rw [← hw''] at H8
  rename_i v8
  clear hw'' G7 Kf0 Kf1 Kf2 Kf3
  refine box84 (.string (qtN t0)) (.string (qtD t0)) (.string (qtN t1)) (.string (qtD t1)) (.string (qtN t2)) (.string (qtD t2)) (.string (qtN t3)) (.string (qtD t3)) (.int .i64 (qtE t0)) (.int .i64 (qtE t1)) (.int .i64 (qtE t2)) (.int .i64 (qtE t3)) rfl rfl rfl rfl rfl rfl rfl rfl rfl rfl rfl rfl (by kernel_rfl) (fun _ _ => by kernel_rfl) rfl rfl rfl rfl (by simp [Value.oneCell']) (by simp [Value.oneCell']) ?_; intro W8 b1 r1 r2; have G8 := Lib.hid (Gv.two84 H8.out b1 r1 r2); clear b1 r1 r2 H8
  refine wpList_nil ?_
  simp only [Act.put, List.setIfInBounds_toArray, List.set_cons_zero, List.set_cons_succ]
  have f0 := (G8.out.2.2.2.2.2.1).at (i := 0) (v := .string (qtN r0)) rfl; have f1 := (G8.out.2.2.2.2.2.1).at (i := 1) (v := .string (qtD r0)) rfl; have f2 := (G8.out.2.2.2.2.2.2.2.1).at (i := 0) (v := .string (qtN C)) rfl; have f3 := (G8.out.2.2.2.2.2.2.2.1).at (i := 1) (v := .string (qtD C)) rfl
  have Kf0 := cell_regrown f0; have Kf1 := cell_regrown f1; have Kf2 := cell_regrown f2; have Kf3 := cell_regrown f3
  clear f0 f1 f2 f3
  go_upto_region 13 with (fail)
  refine wp_region_quiet_pre 7 ?_
  dsimp only [List.take_succ_cons, List.take_zero, List.drop_succ_cons, List.drop_zero]
  repeat (go_big_quiet_step (first | (go_at_call 15; with_reducible exact Calls.regrown_of (F.out.c4 _ (T.out.below (Gv.b (Gv.step G8.out (below_regrown _ _ _)))))) | fail))
  refine wpQuiet_nil ?_; intro _ hw'; obtain ⟨⟨dq, osq⟩, hw''⟩ := hw'
  have H9 := Lib.hid (Gv.step G8.out (below_regrown W8 dq osq))
  rw [← hw''] at H9
  rename_i v9
  clear hw'' G8 Kf0 Kf1 Kf2 Kf3
  refine box84 (.string (qtN u0)) (.string (qtD u0)) (.string (qtN u1)) (.string (qtD u1)) (.string (qtN u2)) (.string (qtD u2)) (.string (qtN u3)) (.string (qtD u3)) (.int .i64 (qtE u0)) (.int .i64 (qtE u1)) (.int .i64 (qtE u2)) (.int .i64 (qtE u3)) rfl rfl rfl rfl rfl rfl rfl rfl rfl rfl rfl rfl (by kernel_rfl) (fun _ _ => by kernel_rfl) rfl rfl rfl rfl (by simp [Value.oneCell']) (by simp [Value.oneCell']) ?_; intro W9 b1 r1 r2; have G9 := Lib.hid (Gv.two84 H9.out b1 r1 r2); clear b1 r1 r2 H9
  refine wpList_nil ?_
  simp only [Act.put, List.setIfInBounds_toArray, List.set_cons_zero, List.set_cons_succ]
  have f0 := (G9.out.2.2.2.2.2.2.2.2.2.2.2.1).at (i := 0) (v := .string (qtN A)) rfl; have f1 := (G9.out.2.2.2.2.2.2.2.2.2.2.2.1).at (i := 1) (v := .string (qtD A)) rfl; have f2 := (G9.out.2.2.2.1).at (i := 0) (v := .string (qtN t0)) rfl; have f3 := (G9.out.2.2.2.1).at (i := 1) (v := .string (qtD t0)) rfl
  have Kf0 := cell_regrown f0; have Kf1 := cell_regrown f1; have Kf2 := cell_regrown f2; have Kf3 := cell_regrown f3
  clear f0 f1 f2 f3
  go_upto_region 14 with (fail)
  refine wp_region_quiet_pre 7 ?_
  dsimp only [List.take_succ_cons, List.take_zero, List.drop_succ_cons, List.drop_zero]
  repeat (go_big_quiet_step (first | (go_at_call 38; with_reducible exact Calls.regrown_of (F.out.c5 _ (T.out.below (Gv.b (Gv.step G9.out (below_regrown _ _ _)))))) | fail))
  refine wpQuiet_nil ?_; intro _ hw'; obtain ⟨⟨dq, osq⟩, hw''⟩ := hw'
  have H10 := Lib.hid (Gv.step G9.out (below_regrown W9 dq osq))
  rw [← hw''] at H10
  rename_i v10
  clear hw'' G9 Kf0 Kf1 Kf2 Kf3
  refine box2 (qtN o1) (qtD o1) rfl rfl rfl rfl rfl (by kernel_rfl) rfl rfl ?_; intro W10 b1 r1; have G10 := Lib.hid (Gv.two2 H10.out b1 r1); clear b1 r1 H10
  simp only [Act.put, List.setIfInBounds_toArray, List.set_cons_zero, List.set_cons_succ]
  have f0 := (G10.out.2.2.2.2.2.2.2.2.2.1).at (i := 0) (v := .int .i64 (qtE r0)) rfl; have f1 := (G10.out.2.2.2.2.2.1).at (i := 0) (v := .int .i64 (qtE t0)) rfl; have f2 := (G10.out.2.2.2.1).at (i := 0) (v := .int .i64 (qtE u0)) rfl; have f3 := (G10.out.2.2.1).at (i := 0) (v := .string (qtN u0)) rfl; have f4 := (G10.out.2.2.1).at (i := 1) (v := .string (qtD u0)) rfl; have f5 := (G10.out.2.1).at (i := 0) (v := .string (qtN o1)) rfl; have f6 := (G10.out.2.1).at (i := 1) (v := .string (qtD o1)) rfl
  have Kf0 := cell_regrown f0; have Kf1 := cell_regrown f1; have Kf2 := cell_regrown f2; have Kf3 := cell_regrown f3; have Kf4 := cell_regrown f4; have Kf5 := cell_regrown f5; have Kf6 := cell_regrown f6
  clear f0 f1 f2 f3 f4 f5 f6
  go_upto_region 15 with (fail)
  go_cut [151] (fun s W => s = .bool false ∧ Gv w ((v10.heap.size, 23, #[.string (qtN o1), .string (qtD o1)]) :: (v9.heap.size, 31, #[.string (qtN u0), .string (qtD u0), .string (qtN u1), .string (qtD u1), .string (qtN u2), .string (qtD u2), .string (qtN u3), .string (qtD u3)]) :: (v9.heap.size + 1, 33, #[.int .i64 (qtE u0), .int .i64 (qtE u1), .int .i64 (qtE u2), .int .i64 (qtE u3)]) :: (v8.heap.size, 31, #[.string (qtN t0), .string (qtD t0), .string (qtN t1), .string (qtD t1), .string (qtN t2), .string (qtD t2), .string (qtN t3), .string (qtD t3)]) :: (v8.heap.size + 1, 33, #[.int .i64 (qtE t0), .int .i64 (qtE t1), .int .i64 (qtE t2), .int .i64 (qtE t3)]) :: (v6.heap.size, 31, #[.string (qtN r0), .string (qtD r0), .string (qtN s1), .string (qtD s1), .string (qtN r2), .string (qtD r2), .string (qtN s3), .string (qtD s3)]) :: (v6.heap.size + 1, 33, #[.int .i64 (qtE r0), .int .i64 (qtE s1), .int .i64 (qtE r2), .int .i64 (qtE s3)]) :: (v5.heap.size, 31, #[.string (qtN r0), .string (qtD r0), .string (qtN r1), .string (qtD r1), .string (qtN r2), .string (qtD r2), .string (qtN r3), .string (qtD r3)]) :: (v5.heap.size + 1, 33, #[.int .i64 (qtE r0), .int .i64 (qtE r1), .int .i64 (qtE r2), .int .i64 (qtE r3)]) :: (w4.heap.size, 23, #[.string (qtN C), .string (qtD C)]) :: (w3.heap.size, 23, #[.string (qtN B), .string (qtD B)]) :: (w2.heap.size, 23, #[.string (qtN A), .string (qtD A)]) :: []) W)
  case first => as_aux_lemma =>
    rcases (show qtE r0 = 0 ∨ qtE r0 = 40 from er_of r0) with z0 | z0
    case inr =>
      refine wp_region_quiet_forced ?_
      repeat (go_big_quiet_step (fail))
      refine wpQuiet_nil ?_; intro _ hw'; obtain ⟨⟨dq, osq⟩, hw''⟩ := hw'; subst hw''
      go_wp2_with fail
      go_meet
      case rel => exact ⟨rfl, Gv.step G10.out (below_regrown _ _ _)⟩
    rcases (show qtE t0 = 0 ∨ qtE t0 = 40 from er_of t0) with z1 | z1
    case inr =>
      refine wp_region_quiet_forced ?_
      repeat (go_big_quiet_step (fail))
      refine wpQuiet_nil ?_; intro _ hw'; obtain ⟨⟨dq, osq⟩, hw''⟩ := hw'; subst hw''
      go_wp2_with fail
      go_meet
      case rel => exact ⟨rfl, Gv.step G10.out (below_regrown _ _ _)⟩
    rcases (show qtE u0 = 0 ∨ qtE u0 = 40 from er_of u0) with z2 | z2
    case inr =>
      refine wp_region_quiet_forced ?_
      repeat (go_big_quiet_step (fail))
      refine wpQuiet_nil ?_; intro _ hw'; obtain ⟨⟨dq, osq⟩, hw''⟩ := hw'; subst hw''
      go_wp2_with fail
      go_meet
      case rel => exact ⟨rfl, Gv.step G10.out (below_regrown _ _ _)⟩
    rcases (show qtE o1 = 0 ∨ qtE o1 = 40 from er_of o1) with z3 | z3
    case inr =>
      refine wp_region_quiet_forced ?_
      repeat (go_big_quiet_step (fail))
      refine wpQuiet_nil ?_; intro _ hw'; obtain ⟨⟨dq, osq⟩, hw''⟩ := hw'; subst hw''
      go_wp2_with fail
      go_meet
      case rel => exact ⟨rfl, Gv.step G10.out (below_regrown _ _ _)⟩
    have ee := F.out.k2 z0 z1 z2 z3
    subst ee
    refine wp_region_quiet_forced ?_
    repeat (go_big_quiet_step (fail))
    refine wpQuiet_nil ?_; intro _ hw'; obtain ⟨⟨dq, osq⟩, hw''⟩ := hw'; subst hw''
    go_wp2_with fail
    go_meet
    case rel => exact ⟨rfl, Gv.step G10.out (below_regrown _ _ _)⟩
  case rest => as_aux_lemma =>
  obtain ⟨rfl, hg⟩ := hcut
  have G11 := Lib.hid hg
  clear hg Kf0 Kf1 Kf2 Kf3 Kf4 Kf5 Kf6
  clear G10
  obtain ⟨W11, hW⟩ : ∃ W, W = wc := ⟨_, rfl⟩
  rw [← hW] at G11 ⊢
  clear hW
  have f0 := (G11.out.2.2.2.2.2.2.2.2.2.2.2.2.1).at (i := 0) (v := .string (qtN A)) rfl; have f1 := (G11.out.2.2.2.2.2.2.2.2.2.2.2.2.1).at (i := 1) (v := .string (qtD A)) rfl; have f2 := (G11.out.2.2.2.2.1).at (i := 4) (v := .string (qtN t2)) rfl; have f3 := (G11.out.2.2.2.2.1).at (i := 5) (v := .string (qtD t2)) rfl
  have Kf0 := cell_regrown f0; have Kf1 := cell_regrown f1; have Kf2 := cell_regrown f2; have Kf3 := cell_regrown f3
  clear f0 f1 f2 f3
  go_upto_region 17 with (fail)
  refine wp_region_quiet_pre 7 ?_
  dsimp only [List.take_succ_cons, List.take_zero, List.drop_succ_cons, List.drop_zero]
  repeat (go_big_quiet_step (first | (go_at_call 39; with_reducible exact Calls.regrown_of (F.out.c6 _ (T.out.below (Gv.b (Gv.step G11.out (below_regrown _ _ _)))))) | fail))
  refine wpQuiet_nil ?_; intro _ hw'; obtain ⟨⟨dq, osq⟩, hw''⟩ := hw'
  have H12 := Lib.hid (Gv.step G11.out (below_regrown W11 dq osq))
  rw [← hw''] at H12
  rename_i v12
  clear hw'' G11 Kf0 Kf1 Kf2 Kf3
  refine box2 (qtN o2) (qtD o2) rfl rfl rfl rfl rfl (by kernel_rfl) rfl rfl ?_; intro W12 b1 r1; have G12 := Lib.hid (Gv.two2 H12.out b1 r1); clear b1 r1 H12
  simp only [Act.put, List.setIfInBounds_toArray, List.set_cons_zero, List.set_cons_succ]
  have f0 := (G12.out.2.2.2.2.2.2.2.2.2.1).at (i := 4) (v := .string (qtN r2)) rfl; have f1 := (G12.out.2.2.2.2.2.2.2.2.2.1).at (i := 5) (v := .string (qtD r2)) rfl; have f2 := (G12.out.2.2.2.2.2.2.2.2.2.2.2.1).at (i := 0) (v := .string (qtN C)) rfl; have f3 := (G12.out.2.2.2.2.2.2.2.2.2.2.2.1).at (i := 1) (v := .string (qtD C)) rfl
  have Kf0 := cell_regrown f0; have Kf1 := cell_regrown f1; have Kf2 := cell_regrown f2; have Kf3 := cell_regrown f3
  clear f0 f1 f2 f3
  go_upto_region 18 with (fail)
  refine wp_region_quiet_pre 7 ?_
  dsimp only [List.take_succ_cons, List.take_zero, List.drop_succ_cons, List.drop_zero]
  repeat (go_big_quiet_step (first | (go_at_call 39; with_reducible exact Calls.regrown_of (F.out.c7 _ (T.out.below (Gv.b (Gv.step G12.out (below_regrown _ _ _)))))) | fail))
  refine wpQuiet_nil ?_; intro _ hw'; obtain ⟨⟨dq, osq⟩, hw''⟩ := hw'
  have H13 := Lib.hid (Gv.step G12.out (below_regrown W12 dq osq))
  rw [← hw''] at H13
  rename_i v13
  clear hw'' G12 Kf0 Kf1 Kf2 Kf3
  refine box2 (qtN lf) (qtD lf) rfl rfl rfl rfl rfl (by kernel_rfl) rfl rfl ?_; intro W13 b1 r1; have G13 := Lib.hid (Gv.two2 H13.out b1 r1); clear b1 r1 H13
  simp only [Act.put, List.setIfInBounds_toArray, List.set_cons_zero, List.set_cons_succ]
  have f0 := (G13.out.2.2.2.2.2.2.2.2.2.2.2.1).at (i := 2) (v := .int .i64 (qtE r2)) rfl; have f1 := (G13.out.2.2.2.2.2.2.2.1).at (i := 2) (v := .int .i64 (qtE t2)) rfl; have f2 := (G13.out.2.2.1).at (i := 0) (v := .string (qtN o2)) rfl; have f3 := (G13.out.2.2.1).at (i := 1) (v := .string (qtD o2)) rfl; have f4 := (G13.out.2.1).at (i := 0) (v := .string (qtN lf)) rfl; have f5 := (G13.out.2.1).at (i := 1) (v := .string (qtD lf)) rfl
  have Kf0 := cell_regrown f0; have Kf1 := cell_regrown f1; have Kf2 := cell_regrown f2; have Kf3 := cell_regrown f3; have Kf4 := cell_regrown f4; have Kf5 := cell_regrown f5
  clear f0 f1 f2 f3 f4 f5
  go_upto_region 19 with (fail)
  go_cut [186] (fun s W => s = .bool false ∧ Gv w ((v13.heap.size, 23, #[.string (qtN lf), .string (qtD lf)]) :: (v12.heap.size, 23, #[.string (qtN o2), .string (qtD o2)]) :: (v10.heap.size, 23, #[.string (qtN o1), .string (qtD o1)]) :: (v9.heap.size, 31, #[.string (qtN u0), .string (qtD u0), .string (qtN u1), .string (qtD u1), .string (qtN u2), .string (qtD u2), .string (qtN u3), .string (qtD u3)]) :: (v9.heap.size + 1, 33, #[.int .i64 (qtE u0), .int .i64 (qtE u1), .int .i64 (qtE u2), .int .i64 (qtE u3)]) :: (v8.heap.size, 31, #[.string (qtN t0), .string (qtD t0), .string (qtN t1), .string (qtD t1), .string (qtN t2), .string (qtD t2), .string (qtN t3), .string (qtD t3)]) :: (v8.heap.size + 1, 33, #[.int .i64 (qtE t0), .int .i64 (qtE t1), .int .i64 (qtE t2), .int .i64 (qtE t3)]) :: (v6.heap.size, 31, #[.string (qtN r0), .string (qtD r0), .string (qtN s1), .string (qtD s1), .string (qtN r2), .string (qtD r2), .string (qtN s3), .string (qtD s3)]) :: (v6.heap.size + 1, 33, #[.int .i64 (qtE r0), .int .i64 (qtE s1), .int .i64 (qtE r2), .int .i64 (qtE s3)]) :: (v5.heap.size, 31, #[.string (qtN r0), .string (qtD r0), .string (qtN r1), .string (qtD r1), .string (qtN r2), .string (qtD r2), .string (qtN r3), .string (qtD r3)]) :: (v5.heap.size + 1, 33, #[.int .i64 (qtE r0), .int .i64 (qtE r1), .int .i64 (qtE r2), .int .i64 (qtE r3)]) :: (w4.heap.size, 23, #[.string (qtN C), .string (qtD C)]) :: (w3.heap.size, 23, #[.string (qtN B), .string (qtD B)]) :: (w2.heap.size, 23, #[.string (qtN A), .string (qtD A)]) :: []) W)
  case first => as_aux_lemma =>
    rcases (show qtE r2 = 0 ∨ qtE r2 = 40 from er_of r2) with z0 | z0
    case inr =>
      refine wp_region_quiet_forced ?_
      repeat (go_big_quiet_step (fail))
      refine wpQuiet_nil ?_; intro _ hw'; obtain ⟨⟨dq, osq⟩, hw''⟩ := hw'; subst hw''
      go_wp2_with fail
      go_meet
      case rel => exact ⟨rfl, Gv.step G13.out (below_regrown _ _ _)⟩
    rcases (show qtE t2 = 0 ∨ qtE t2 = 40 from er_of t2) with z1 | z1
    case inr =>
      refine wp_region_quiet_forced ?_
      repeat (go_big_quiet_step (fail))
      refine wpQuiet_nil ?_; intro _ hw'; obtain ⟨⟨dq, osq⟩, hw''⟩ := hw'; subst hw''
      go_wp2_with fail
      go_meet
      case rel => exact ⟨rfl, Gv.step G13.out (below_regrown _ _ _)⟩
    rcases (show qtE o2 = 0 ∨ qtE o2 = 40 from er_of o2) with z2 | z2
    case inr =>
      refine wp_region_quiet_forced ?_
      repeat (go_big_quiet_step (fail))
      refine wpQuiet_nil ?_; intro _ hw'; obtain ⟨⟨dq, osq⟩, hw''⟩ := hw'; subst hw''
      go_wp2_with fail
      go_meet
      case rel => exact ⟨rfl, Gv.step G13.out (below_regrown _ _ _)⟩
    rcases (show qtE lf = 0 ∨ qtE lf = 40 from er_of lf) with z3 | z3
    case inr =>
      refine wp_region_quiet_forced ?_
      repeat (go_big_quiet_step (fail))
      refine wpQuiet_nil ?_; intro _ hw'; obtain ⟨⟨dq, osq⟩, hw''⟩ := hw'; subst hw''
      go_wp2_with fail
      go_meet
      case rel => exact ⟨rfl, Gv.step G13.out (below_regrown _ _ _)⟩
    have ee := F.out.k3 z0 z1 z2 z3
    subst ee
    refine wp_region_quiet_forced ?_
    repeat (go_big_quiet_step (fail))
    refine wpQuiet_nil ?_; intro _ hw'; obtain ⟨⟨dq, osq⟩, hw''⟩ := hw'; subst hw''
    go_wp2_with fail
    go_meet
    case rel => exact ⟨rfl, Gv.step G13.out (below_regrown _ _ _)⟩
  case rest => as_aux_lemma =>
  obtain ⟨rfl, hg⟩ := hcut
  have G14 := Lib.hid hg
  clear hg Kf0 Kf1 Kf2 Kf3 Kf4 Kf5
  clear G13
  obtain ⟨W14, hW⟩ : ∃ W, W = wc := ⟨_, rfl⟩
  rw [← hW] at G14 ⊢
  clear hW
  have f0 := (G14.out.2.2.2.2.2.2.2.2.2.2.2.2.2.2.1).at (i := 0) (v := .string (qtN A)) rfl; have f1 := (G14.out.2.2.2.2.2.2.2.2.2.2.2.2.2.2.1).at (i := 1) (v := .string (qtD A)) rfl; have f2 := (G14.out.2.2.2.2.2.2.2.2.2.2.2.2.1).at (i := 0) (v := .string (qtN C)) rfl; have f3 := (G14.out.2.2.2.2.2.2.2.2.2.2.2.2.1).at (i := 1) (v := .string (qtD C)) rfl
  have Kf0 := cell_regrown f0; have Kf1 := cell_regrown f1; have Kf2 := cell_regrown f2; have Kf3 := cell_regrown f3
  clear f0 f1 f2 f3
  go_upto_region 21 with (fail)
  refine wp_region_quiet_pre 6 ?_
  dsimp only [List.take_succ_cons, List.take_zero, List.drop_succ_cons, List.drop_zero]
  repeat (go_big_quiet_step (first | (go_at_call 39; with_reducible exact Calls.regrown_of (F.out.c8 _ (T.out.below (Gv.b (Gv.step G14.out (below_regrown _ _ _)))))) | fail))
  refine wpQuiet_nil ?_; intro _ hw'; obtain ⟨⟨dq, osq⟩, hw''⟩ := hw'
  have H15 := Lib.hid (Gv.step G14.out (below_regrown W14 dq osq))
  rw [← hw''] at H15
  rename_i v15
  clear hw'' G14 Kf0 Kf1 Kf2 Kf3
  refine box2 (qtN ac) (qtD ac) rfl rfl rfl rfl rfl (by kernel_rfl) rfl rfl ?_; intro W15 b1 r1; have G15 := Lib.hid (Gv.two2 H15.out b1 r1); clear b1 r1 H15
  simp only [Act.put, List.setIfInBounds_toArray, List.set_cons_zero, List.set_cons_succ]
  have f0 := (G15.out.2.1).at (i := 0) (v := .string (qtN ac)) rfl; have f1 := (G15.out.2.1).at (i := 1) (v := .string (qtD ac)) rfl; have f2 := (G15.out.2.2.2.2.2.2.2.1).at (i := 4) (v := .string (qtN t2)) rfl; have f3 := (G15.out.2.2.2.2.2.2.2.1).at (i := 5) (v := .string (qtD t2)) rfl
  have Kf0 := cell_regrown f0; have Kf1 := cell_regrown f1; have Kf2 := cell_regrown f2; have Kf3 := cell_regrown f3
  clear f0 f1 f2 f3
  go_upto_region 22 with (fail)
  refine wp_region_quiet_pre 7 ?_
  dsimp only [List.take_succ_cons, List.take_zero, List.drop_succ_cons, List.drop_zero]
  repeat (go_big_quiet_step (first | (go_at_call 38; with_reducible exact Calls.regrown_of (F.out.c9 _ (T.out.below (Gv.b (Gv.step G15.out (below_regrown _ _ _)))))) | fail))
  refine wpQuiet_nil ?_; intro _ hw'; obtain ⟨⟨dq, osq⟩, hw''⟩ := hw'
  have H16 := Lib.hid (Gv.step G15.out (below_regrown W15 dq osq))
  rw [← hw''] at H16
  rename_i v16
  clear hw'' G15 Kf0 Kf1 Kf2 Kf3
  refine box2 (qtN su) (qtD su) rfl rfl rfl rfl rfl (by kernel_rfl) rfl rfl ?_; intro W16 b1 r1; have G16 := Lib.hid (Gv.two2 H16.out b1 r1); clear b1 r1 H16
  simp only [Act.put, List.setIfInBounds_toArray, List.set_cons_zero, List.set_cons_succ]
  have f0 := (G16.out.2.2.2.2.2.2.2.2.2.2.2.2.1).at (i := 0) (v := .string (qtN r0)) rfl; have f1 := (G16.out.2.2.2.2.2.2.2.2.2.2.2.2.1).at (i := 1) (v := .string (qtD r0)) rfl; have f2 := (G16.out.2.2.2.2.2.2.2.2.2.2.2.2.2.2.1).at (i := 0) (v := .string (qtN C)) rfl; have f3 := (G16.out.2.2.2.2.2.2.2.2.2.2.2.2.2.2.1).at (i := 1) (v := .string (qtD C)) rfl
  have Kf0 := cell_regrown f0; have Kf1 := cell_regrown f1; have Kf2 := cell_regrown f2; have Kf3 := cell_regrown f3
  clear f0 f1 f2 f3
  go_upto_region 23 with (fail)
  refine wp_region_quiet_pre 7 ?_
  dsimp only [List.take_succ_cons, List.take_zero, List.drop_succ_cons, List.drop_zero]
  repeat (go_big_quiet_step (first | (go_at_call 39; with_reducible exact Calls.regrown_of (F.out.c10 _ (T.out.below (Gv.b (Gv.step G16.out (below_regrown _ _ _)))))) | fail))
  refine wpQuiet_nil ?_; intro _ hw'; obtain ⟨⟨dq, osq⟩, hw''⟩ := hw'
  have H17 := Lib.hid (Gv.step G16.out (below_regrown W16 dq osq))
  rw [← hw''] at H17
  rename_i v17
  clear hw'' G16 Kf0 Kf1 Kf2 Kf3
  refine box2 (qtN wh) (qtD wh) rfl rfl rfl rfl rfl (by kernel_rfl) rfl rfl ?_; intro W17 b1 r1; have G17 := Lib.hid (Gv.two2 H17.out b1 r1); clear b1 r1 H17
  simp only [Act.put, List.setIfInBounds_toArray, List.set_cons_zero, List.set_cons_succ]
  have f0 := (G17.out.2.2.2.2.2.2.2.2.2.2.2.2.2.2.1).at (i := 0) (v := .int .i64 (qtE r0)) rfl; have f1 := (G17.out.2.2.2.2.2.2.2.2.2.2.1).at (i := 2) (v := .int .i64 (qtE t2)) rfl; have f2 := (G17.out.2.2.1).at (i := 0) (v := .string (qtN su)) rfl; have f3 := (G17.out.2.2.1).at (i := 1) (v := .string (qtD su)) rfl; have f4 := (G17.out.2.1).at (i := 0) (v := .string (qtN wh)) rfl; have f5 := (G17.out.2.1).at (i := 1) (v := .string (qtD wh)) rfl
  have Kf0 := cell_regrown f0; have Kf1 := cell_regrown f1; have Kf2 := cell_regrown f2; have Kf3 := cell_regrown f3; have Kf4 := cell_regrown f4; have Kf5 := cell_regrown f5
  clear f0 f1 f2 f3 f4 f5
  go_upto_region 24 with (fail)
  go_cut [231] (fun s W => s = .bool false ∧ Gv w ((v17.heap.size, 23, #[.string (qtN wh), .string (qtD wh)]) :: (v16.heap.size, 23, #[.string (qtN su), .string (qtD su)]) :: (v15.heap.size, 23, #[.string (qtN ac), .string (qtD ac)]) :: (v13.heap.size, 23, #[.string (qtN lf), .string (qtD lf)]) :: (v12.heap.size, 23, #[.string (qtN o2), .string (qtD o2)]) :: (v10.heap.size, 23, #[.string (qtN o1), .string (qtD o1)]) :: (v9.heap.size, 31, #[.string (qtN u0), .string (qtD u0), .string (qtN u1), .string (qtD u1), .string (qtN u2), .string (qtD u2), .string (qtN u3), .string (qtD u3)]) :: (v9.heap.size + 1, 33, #[.int .i64 (qtE u0), .int .i64 (qtE u1), .int .i64 (qtE u2), .int .i64 (qtE u3)]) :: (v8.heap.size, 31, #[.string (qtN t0), .string (qtD t0), .string (qtN t1), .string (qtD t1), .string (qtN t2), .string (qtD t2), .string (qtN t3), .string (qtD t3)]) :: (v8.heap.size + 1, 33, #[.int .i64 (qtE t0), .int .i64 (qtE t1), .int .i64 (qtE t2), .int .i64 (qtE t3)]) :: (v6.heap.size, 31, #[.string (qtN r0), .string (qtD r0), .string (qtN s1), .string (qtD s1), .string (qtN r2), .string (qtD r2), .string (qtN s3), .string (qtD s3)]) :: (v6.heap.size + 1, 33, #[.int .i64 (qtE r0), .int .i64 (qtE s1), .int .i64 (qtE r2), .int .i64 (qtE s3)]) :: (v5.heap.size, 31, #[.string (qtN r0), .string (qtD r0), .string (qtN r1), .string (qtD r1), .string (qtN r2), .string (qtD r2), .string (qtN r3), .string (qtD r3)]) :: (v5.heap.size + 1, 33, #[.int .i64 (qtE r0), .int .i64 (qtE r1), .int .i64 (qtE r2), .int .i64 (qtE r3)]) :: (w4.heap.size, 23, #[.string (qtN C), .string (qtD C)]) :: (w3.heap.size, 23, #[.string (qtN B), .string (qtD B)]) :: (w2.heap.size, 23, #[.string (qtN A), .string (qtD A)]) :: []) W)
  case first => as_aux_lemma =>
    rcases (show qtE r0 = 0 ∨ qtE r0 = 40 from er_of r0) with z0 | z0
    case inr =>
      refine wp_region_quiet_forced ?_
      repeat (go_big_quiet_step (fail))
      refine wpQuiet_nil ?_; intro _ hw'; obtain ⟨⟨dq, osq⟩, hw''⟩ := hw'; subst hw''
      go_wp2_with fail
      go_meet
      case rel => exact ⟨rfl, Gv.step G17.out (below_regrown _ _ _)⟩
    rcases (show qtE ac = 0 ∨ qtE ac = 40 from er_of ac) with z1 | z1
    case inr =>
      refine wp_region_quiet_forced ?_
      repeat (go_big_quiet_step (fail))
      refine wpQuiet_nil ?_; intro _ hw'; obtain ⟨⟨dq, osq⟩, hw''⟩ := hw'; subst hw''
      go_wp2_with fail
      go_meet
      case rel => exact ⟨rfl, Gv.step G17.out (below_regrown _ _ _)⟩
    rcases (show qtE t2 = 0 ∨ qtE t2 = 40 from er_of t2) with z2 | z2
    case inr =>
      refine wp_region_quiet_forced ?_
      repeat (go_big_quiet_step (fail))
      refine wpQuiet_nil ?_; intro _ hw'; obtain ⟨⟨dq, osq⟩, hw''⟩ := hw'; subst hw''
      go_wp2_with fail
      go_meet
      case rel => exact ⟨rfl, Gv.step G17.out (below_regrown _ _ _)⟩
    rcases (show qtE su = 0 ∨ qtE su = 40 from er_of su) with z3 | z3
    case inr =>
      refine wp_region_quiet_forced ?_
      repeat (go_big_quiet_step (fail))
      refine wpQuiet_nil ?_; intro _ hw'; obtain ⟨⟨dq, osq⟩, hw''⟩ := hw'; subst hw''
      go_wp2_with fail
      go_meet
      case rel => exact ⟨rfl, Gv.step G17.out (below_regrown _ _ _)⟩
    rcases (show qtE wh = 0 ∨ qtE wh = 40 from er_of wh) with z4 | z4
    case inr =>
      refine wp_region_quiet_forced ?_
      repeat (go_big_quiet_step (fail))
      refine wpQuiet_nil ?_; intro _ hw'; obtain ⟨⟨dq, osq⟩, hw''⟩ := hw'; subst hw''
      go_wp2_with fail
      go_meet
      case rel => exact ⟨rfl, Gv.step G17.out (below_regrown _ _ _)⟩
    have ee := F.out.k4 z0 z1 z2 z3 z4
    subst ee
    refine wp_region_quiet_forced ?_
    repeat (go_big_quiet_step (fail))
    refine wpQuiet_nil ?_; intro _ hw'; obtain ⟨⟨dq, osq⟩, hw''⟩ := hw'; subst hw''
    go_wp2_with fail
    go_meet
    case rel => exact ⟨rfl, Gv.step G17.out (below_regrown _ _ _)⟩
  case rest => as_aux_lemma =>
  obtain ⟨rfl, hg⟩ := hcut
  have G18 := Lib.hid hg
  clear hg Kf0 Kf1 Kf2 Kf3 Kf4 Kf5
  clear G17
  obtain ⟨W18, hW⟩ : ∃ W, W = wc := ⟨_, rfl⟩
  rw [← hW] at G18 ⊢
  clear hW
  have f0 := (G18.out.2.2.2.2.2.2.2.2.2.2.2.2.2.1).at (i := 0) (v := .string (qtN r0)) rfl; have f1 := (G18.out.2.2.2.2.2.2.2.2.2.2.2.2.2.1).at (i := 1) (v := .string (qtD r0)) rfl; have f2 := (G18.out.2.2.2.2.2.2.2.2.2.2.2.2.2.2.2.2.1).at (i := 0) (v := .string (qtN B)) rfl; have f3 := (G18.out.2.2.2.2.2.2.2.2.2.2.2.2.2.2.2.2.1).at (i := 1) (v := .string (qtD B)) rfl
  have Kf0 := cell_regrown f0; have Kf1 := cell_regrown f1; have Kf2 := cell_regrown f2; have Kf3 := cell_regrown f3
  clear f0 f1 f2 f3
  go_upto_region 26 with (fail)
  refine wp_region_quiet_pre 7 ?_
  dsimp only [List.take_succ_cons, List.take_zero, List.drop_succ_cons, List.drop_zero]
  repeat (go_big_quiet_step (first | (go_at_call 40; with_reducible exact Calls.regrown_of (F.out.c11 _ (T.out.below (Gv.b (Gv.step G18.out (below_regrown _ _ _)))))) | fail))
  refine wpQuiet_nil ?_; intro _ hw'; obtain ⟨⟨dq, osq⟩, hw''⟩ := hw'
  have H19 := Lib.hid (Gv.step G18.out (below_regrown W18 dq osq))
  rw [← hw''] at H19
  rename_i v19
  clear hw'' G18 Kf0 Kf1 Kf2 Kf3
  refine box2 (qtN bk) (qtD bk) rfl rfl rfl rfl rfl (by kernel_rfl) rfl rfl ?_; intro W19 b1 r1; have G19 := Lib.hid (Gv.two2 H19.out b1 r1); clear b1 r1 H19
  simp only [Act.put, List.setIfInBounds_toArray, List.set_cons_zero, List.set_cons_succ]
  have f0 := (G19.out.2.2.2.2.2.2.2.2.2.2.2.2.2.2.1).at (i := 6) (v := .string (qtN r3)) rfl; have f1 := (G19.out.2.2.2.2.2.2.2.2.2.2.2.2.2.2.1).at (i := 7) (v := .string (qtD r3)) rfl; have f2 := (G19.out.2.2.2.2.2.2.2.2.2.2.2.2.2.2.2.2.2.1).at (i := 0) (v := .string (qtN B)) rfl; have f3 := (G19.out.2.2.2.2.2.2.2.2.2.2.2.2.2.2.2.2.2.1).at (i := 1) (v := .string (qtD B)) rfl
  have Kf0 := cell_regrown f0; have Kf1 := cell_regrown f1; have Kf2 := cell_regrown f2; have Kf3 := cell_regrown f3
  clear f0 f1 f2 f3
  go_upto_region 27 with (fail)
  refine wp_region_quiet_pre 7 ?_
  dsimp only [List.take_succ_cons, List.take_zero, List.drop_succ_cons, List.drop_zero]
  repeat (go_big_quiet_step (first | (go_at_call 39; with_reducible exact Calls.regrown_of (F.out.c12 _ (T.out.below (Gv.b (Gv.step G19.out (below_regrown _ _ _)))))) | fail))
  refine wpQuiet_nil ?_; intro _ hw'; obtain ⟨⟨dq, osq⟩, hw''⟩ := hw'
  have H20 := Lib.hid (Gv.step G19.out (below_regrown W19 dq osq))
  rw [← hw''] at H20
  rename_i v20
  clear hw'' G19 Kf0 Kf1 Kf2 Kf3
  refine box2 (qtN ag) (qtD ag) rfl rfl rfl rfl rfl (by kernel_rfl) rfl rfl ?_; intro W20 b1 r1; have G20 := Lib.hid (Gv.two2 H20.out b1 r1); clear b1 r1 H20
  simp only [Act.put, List.setIfInBounds_toArray, List.set_cons_zero, List.set_cons_succ]
  have f0 := (G20.out.2.2.2.2.2.2.2.2.2.2.2.2.2.2.2.2.1).at (i := 0) (v := .int .i64 (qtE r0)) rfl; have f1 := (G20.out.2.2.2.2.2.2.2.2.2.2.2.2.2.2.2.2.1).at (i := 3) (v := .int .i64 (qtE r3)) rfl; have f2 := (G20.out.2.2.1).at (i := 0) (v := .string (qtN bk)) rfl; have f3 := (G20.out.2.2.1).at (i := 1) (v := .string (qtD bk)) rfl; have f4 := (G20.out.2.2.2.2.2.2.2.2.2.2.2.2.2.2.2.2.2.2.2.1).at (i := 0) (v := .string (qtN A)) rfl; have f5 := (G20.out.2.2.2.2.2.2.2.2.2.2.2.2.2.2.2.2.2.2.2.1).at (i := 1) (v := .string (qtD A)) rfl; have f6 := (G20.out.2.1).at (i := 0) (v := .string (qtN ag)) rfl; have f7 := (G20.out.2.1).at (i := 1) (v := .string (qtD ag)) rfl
  have Kf0 := cell_regrown f0; have Kf1 := cell_regrown f1; have Kf2 := cell_regrown f2; have Kf3 := cell_regrown f3; have Kf4 := cell_regrown f4; have Kf5 := cell_regrown f5; have Kf6 := cell_regrown f6; have Kf7 := cell_regrown f7
  clear f0 f1 f2 f3 f4 f5 f6 f7
  go_upto_region 28 with (fail)
  rcases (show qtE r0 = 0 ∨ qtE r0 = 40 from er_of r0) with x0 | x0
  case inr =>
    rcases (show qtE r3 = 0 ∨ qtE r3 = 40 from er_of r3) with y0 | y0
    case inr =>
      refine wp_region_quiet_forced ?_
      repeat (go_big_quiet_step (fail))
      refine wpQuiet_nil ?_; intro _ hw'; obtain ⟨⟨dq, osq⟩, hw''⟩ := hw'; subst hw''
      go_wp2_with fail
      go_ret
      exact ⟨rfl, below_step (Gv.b G20.out) (below_regrown _ _ _)⟩
    rcases (show qtE ag = 0 ∨ qtE ag = 40 from er_of ag) with y1 | y1
    case inr =>
      refine wp_region_quiet_forced ?_
      repeat (go_big_quiet_step (fail))
      refine wpQuiet_nil ?_; intro _ hw'; obtain ⟨⟨dq, osq⟩, hw''⟩ := hw'; subst hw''
      go_wp2_with fail
      go_ret
      exact ⟨rfl, below_step (Gv.b G20.out) (below_regrown _ _ _)⟩
    have ee2 := F.out.k6 y0 y1
    subst ee2
    refine wp_region_quiet_forced ?_
    repeat (go_big_quiet_step (fail))
    refine wpQuiet_nil ?_; intro _ hw'; obtain ⟨⟨dq, osq⟩, hw''⟩ := hw'; subst hw''
    go_wp2_with fail
    go_ret
    exact ⟨rfl, below_step (Gv.b G20.out) (below_regrown _ _ _)⟩
  rcases (show qtE bk = 0 ∨ qtE bk = 40 from er_of bk) with x1 | x1
  case inr =>
    rcases (show qtE r3 = 0 ∨ qtE r3 = 40 from er_of r3) with y0 | y0
    case inr =>
      refine wp_region_quiet_forced ?_
      repeat (go_big_quiet_step (fail))
      refine wpQuiet_nil ?_; intro _ hw'; obtain ⟨⟨dq, osq⟩, hw''⟩ := hw'; subst hw''
      go_wp2_with fail
      go_ret
      exact ⟨rfl, below_step (Gv.b G20.out) (below_regrown _ _ _)⟩
    rcases (show qtE ag = 0 ∨ qtE ag = 40 from er_of ag) with y1 | y1
    case inr =>
      refine wp_region_quiet_forced ?_
      repeat (go_big_quiet_step (fail))
      refine wpQuiet_nil ?_; intro _ hw'; obtain ⟨⟨dq, osq⟩, hw''⟩ := hw'; subst hw''
      go_wp2_with fail
      go_ret
      exact ⟨rfl, below_step (Gv.b G20.out) (below_regrown _ _ _)⟩
    have ee2 := F.out.k6 y0 y1
    subst ee2
    refine wp_region_quiet_forced ?_
    repeat (go_big_quiet_step (fail))
    refine wpQuiet_nil ?_; intro _ hw'; obtain ⟨⟨dq, osq⟩, hw''⟩ := hw'; subst hw''
    go_wp2_with fail
    go_ret
    exact ⟨rfl, below_step (Gv.b G20.out) (below_regrown _ _ _)⟩
  have ee := F.out.k5 x0 x1
  subst ee
  rcases (show qtE r3 = 0 ∨ qtE r3 = 40 from er_of r3) with y0 | y0
  case inr =>
    refine wp_region_quiet_forced ?_
    repeat (go_big_quiet_step (fail))
    refine wpQuiet_nil ?_; intro _ hw'; obtain ⟨⟨dq, osq⟩, hw''⟩ := hw'; subst hw''
    go_wp2_with fail
    go_ret
    exact ⟨rfl, below_step (Gv.b G20.out) (below_regrown _ _ _)⟩
  rcases (show qtE ag = 0 ∨ qtE ag = 40 from er_of ag) with y1 | y1
  case inr =>
    refine wp_region_quiet_forced ?_
    repeat (go_big_quiet_step (fail))
    refine wpQuiet_nil ?_; intro _ hw'; obtain ⟨⟨dq, osq⟩, hw''⟩ := hw'; subst hw''
    go_wp2_with fail
    go_ret
    exact ⟨rfl, below_step (Gv.b G20.out) (below_regrown _ _ _)⟩
  have ee2 := F.out.k6 y0 y1
  subst ee2
  refine wp_region_quiet_forced ?_
  repeat (go_big_quiet_step (fail))
  refine wpQuiet_nil ?_; intro _ hw'; obtain ⟨⟨dq, osq⟩, hw''⟩ := hw'; subst hw''
  go_wp2_with fail
  go_ret
  exact ⟨rfl, below_step (Gv.b G20.out) (below_regrown _ _ _)⟩
end Go.Proofs.YtoglddlpmnkfkaaGreatDoor
