/- RationalMachine: what its calls hand back; boxes of arrays (eight cells, four cells) and of fractions, made and filled at once; the front of a region that reads only; the walk. (The pieces about boxes stand in Fld1, too: import one of the two.) -/
import Derived.Test.YtgpncnnlhhmjaaaGreatDoorFldC
import Derived.Great.Walk
namespace Go.Proofs.YtgpncnnlhhmjaaaGreatDoor
open Go.RowKit

theorem rint_dec {z : Int} (h : z.natAbs < 2000000000) (w : World) : Calls Tryz.prog 37 #[.string (dec z)] w fun e w' => e = .returned (.tuple #[.int .i64 z, .int .i64 0]) ∧ Below w.heap.size w w' := by
  have f := fits_tiny (z := z) (Nat.lt_trans h (by decide))
  have k := rint_any (dec z) (Nat.le_trans (valid_size (by rw [valid_dec, f])) (by decide)) w
  have e : intOk (dec z) = true := by rw [intOk, valid_dec, f, num_dec, in64, decide_eq_true (by omega), decide_eq_true (by omega)]; rfl
  rw [intN, intE, e, if_pos rfl, if_pos rfl, num_dec] at k
  exact k
/-- What the law asks of one result. -/
structure Res (N D : ByteArray) (X Y x y : Int) : Prop where
  one : ∀ W, Calls Tryz.prog 37 #[.string N] W fun e w' => e = .returned (.tuple #[.int .i64 x, .int .i64 0]) ∧ Below W.heap.size W w'
  two : ∀ W, Calls Tryz.prog 37 #[.string D] W fun e w' => e = .returned (.tuple #[.int .i64 y, .int .i64 0]) ∧ Below W.heap.size W w'
  ok : Cl 29 #[rv N D] (.bool true)
  den : 1 ≤ y
  bx : x.natAbs < 2000000000
  bd : y.natAbs < 2000000000
  bX : X.natAbs < 2000000000
  bY : Y.natAbs < 2000000000
  eq : x * Y = X * y
theorem res_of {X Y : Int} (hY : Y ≠ 0) (bX : X.natAbs < 2000000000) (bY : Y.natAbs < 2000000000) : Res (dec (Rat.divInt X Y).num) (dec ((Rat.divInt X Y).den : Int)) X Y (Rat.divInt X Y).num ((Rat.divInt X Y).den : Int) := by
  have h1 := num_lt (d := Y) bX
  have h2 := den_lt (n := X) hY bY
  have ok : okO (some (Rat.divInt X Y)) = true := ok_divInt (fits_tiny (Nat.lt_trans bX (by decide))) (fits_tiny (Nat.lt_trans bY (by decide))) hY
  exact ⟨rint_dec h1, rint_dec h2, fun W h => valid_q ok W h, by have := den_posI (Rat.divInt X Y); omega, h1, h2, bX, bY, num_den X hY⟩
theorem cmp_scale {u v U V K L : Int} (h1 : u * K = U * L) (h2 : v * K = V * L) (hK : 0 < K) (hL : 0 < L) : cmpI u v = cmpI U V := by
  have a : ∀ {x y X Y : Int}, x * K = X * L → y * K = Y * L → (x < y ↔ X < Y) := fun {x y X Y} p q => by
    rw [← Int.mul_lt_mul_right hK, p, q, Int.mul_lt_mul_right hL]
  unfold cmpI
  simp only [a h1 h2, a h2 h1]
section
variable {n d m c : Int} (hn : n.natAbs ≤ 30000) (hm : m.natAbs ≤ 30000) (hd : 1 ≤ d) (hd2 : d ≤ 30000) (hc : 1 ≤ c) (hc2 : c ≤ 30000)
theorem small_div (hn : n.natAbs ≤ 30000) (hd : 1 ≤ d) (hd2 : d ≤ 30000) : (Rat.divInt n d).num.natAbs < 30001 ∧ ((Rat.divInt n d).den : Int).natAbs < 30001 :=
  ⟨num_lt (by omega), den_lt (by omega) (by omega)⟩
include hn hm hd hd2 hc hc2
theorem add_mac : addO (some (Rat.divInt n d)) (some (Rat.divInt m c)) = some (Rat.divInt (n * c + m * d) (d * c)) := by
  obtain ⟨a1, a2⟩ := small_div hn hd hd2
  obtain ⟨b1, b2⟩ := small_div hm hc hc2
  have k1 := abs_mul a1 b2
  have k2 := abs_mul b1 a2
  have k3 := abs_mul a2 b2
  unfold addO
  dsimp only
  rw [if_pos (by rw [fits_tiny (Nat.lt_trans k1 (by decide)), fits_tiny (Nat.lt_trans k2 (by decide)), fits_tiny (Nat.lt_trans k3 (by decide)), fits_tiny (Nat.lt_trans (abs_add k1 k2) (by decide))]; rfl), Rat.divInt_add_divInt _ _ (by omega) (by omega)]
theorem sub_mac : subO (some (Rat.divInt n d)) (some (Rat.divInt m c)) = some (Rat.divInt (n * c - m * d) (d * c)) := by
  obtain ⟨a1, a2⟩ := small_div hn hd hd2
  obtain ⟨b1, b2⟩ := small_div hm hc hc2
  have k1 := abs_mul a1 b2
  have k2 := abs_mul b1 a2
  have k3 := abs_mul a2 b2
  unfold subO
  dsimp only
  rw [if_pos (by rw [fits_tiny (Nat.lt_trans k1 (by decide)), fits_tiny (Nat.lt_trans k2 (by decide)), fits_tiny (Nat.lt_trans k3 (by decide)), fits_tiny (Nat.lt_trans (abs_sub k1 k2) (by decide))]; rfl), Rat.divInt_sub_divInt _ _ (by omega) (by omega)]
theorem mul_mac : mulO (some (Rat.divInt n d)) (some (Rat.divInt m c)) = some (Rat.divInt (n * m) (d * c)) := by
  obtain ⟨a1, a2⟩ := small_div hn hd hd2
  obtain ⟨b1, b2⟩ := small_div hm hc hc2
  have k1 := abs_mul a1 b1
  have k3 := abs_mul a2 b2
  unfold mulO
  dsimp only
  rw [if_pos (by rw [fits_tiny (Nat.lt_trans k1 (by decide)), fits_tiny (Nat.lt_trans k3 (by decide))]; rfl), Rat.divInt_mul_divInt]
theorem div_mac (h0 : m ≠ 0) : divO (some (Rat.divInt n d)) (some (Rat.divInt m c)) = some (Rat.divInt (n * c) (d * m)) := by
  obtain ⟨a1, a2⟩ := small_div hn hd hd2
  obtain ⟨b1, b2⟩ := small_div hm hc hc2
  have k1 := abs_mul a1 b2
  have k3 := abs_mul a2 b1
  have nz : (Rat.divInt m c).num ≠ 0 := fun e => by
    have k := num_den m (d := c) (by omega)
    rw [e, Int.zero_mul] at k
    rcases Int.mul_eq_zero.1 k.symm with h | h
    · exact h0 h
    · exact den_ne _ h
  unfold divO
  dsimp only
  rw [if_pos (by rw [fits_tiny (Nat.lt_trans k1 (by decide)), fits_tiny (Nat.lt_trans k3 (by decide)), decide_eq_true nz]; rfl), Rat.div_def, Rat.inv_divInt, Rat.divInt_mul_divInt]
omit hn hm hd hd2 hc hc2 in
theorem div_zero_mac : divO (some (Rat.divInt n d)) (some (Rat.divInt 0 c)) = none := by
  rw [Rat.zero_divInt]
  unfold divO
  dsimp only
  rw [if_neg (by simp)]
omit hn hm in
theorem cmp_mac : cmpO (some (Rat.divInt n d)) (some (Rat.divInt m c)) = cmpI (n * c) (m * d) := by
  have p := den_posI (Rat.divInt n d)
  have q := den_posI (Rat.divInt m c)
  have e1 := num_den n (d := d) (by omega)
  have e2 := num_den m (d := c) (by omega)
  show cmpI _ _ = _
  generalize (Rat.divInt n d).num = x at *
  generalize ((Rat.divInt n d).den : Int) = y at *
  generalize (Rat.divInt m c).num = u at *
  generalize ((Rat.divInt m c).den : Int) = v at *
  refine cmp_scale (K := d * c) (L := y * v) ?_ ?_ (Int.mul_pos (by omega) (by omega)) (Int.mul_pos p q)
  · calc x * v * (d * c) = (x * d) * (v * c) := by simp only [Int.mul_comm, Int.mul_left_comm]
      _ = n * c * (y * v) := by rw [e1]; simp only [Int.mul_comm, Int.mul_left_comm]
  · calc u * y * (d * c) = (u * c) * (y * d) := by simp only [Int.mul_comm, Int.mul_left_comm]
      _ = m * d * (y * v) := by rw [e2]; simp only [Int.mul_comm, Int.mul_left_comm]
omit hm hc hc2 in
theorem make_mac : makeR (dec n) (dec d) = some (Rat.divInt n d) := by
  rw [makeR, both, valid_dec, valid_dec, num_dec, num_dec, fits_tiny (by omega), fits_tiny (by omega), decide_eq_true (show d ≠ 0 by omega)]; rfl
/-- All that the law calls. -/
theorem mac_all : ∃ (Na Da Nb Db a0 b0 a1 b1 a2 b2 a3 b3 : ByteArray) (e3 x0 y0 x1 y1 x2 y2 x3 y3 : Int),
    Cl 31 #[.int .i64 n, .int .i64 d] (.tuple #[.agg #[.string Na, .string Da], .int .i64 0]) ∧ Cl 31 #[.int .i64 m, .int .i64 c] (.tuple #[.agg #[.string Nb, .string Db], .int .i64 0]) ∧
    Cl 15 #[rv Na Da, rv Nb Db] (.tuple #[.agg #[.string a0, .string b0, .string a1, .string b1, .string a2, .string b2, .string a3, .string b3], .agg #[.int .i64 0, .int .i64 0, .int .i64 0, .int .i64 e3]]) ∧
    Cl 20 #[rv Na Da, rv Nb Db] (.int .i64 (cmpI (n * c) (m * d))) ∧
    Res a0 b0 (n * c + m * d) (d * c) x0 y0 ∧ Res a1 b1 (n * c - m * d) (d * c) x1 y1 ∧ Res a2 b2 (n * m) (d * c) x2 y2 ∧
    ((m = 0 ∧ e3 = 40 ∧ a3 = ⟨#[]⟩ ∧ b3 = ⟨#[]⟩) ∨ (m ≠ 0 ∧ e3 = 0 ∧ Res a3 b3 (n * c) (d * m) x3 y3)) := by
  have oa : okO (some (Rat.divInt n d)) = true := ok_divInt (fits_tiny (by omega)) (fits_tiny (by omega)) (by omega)
  have ob : okO (some (Rat.divInt m c)) = true := ok_divInt (fits_tiny (by omega)) (fits_tiny (by omega)) (by omega)
  have kf := four_q oa ob
  have kc := fun W h => cmp_q oa ob W h
  rw [cmp_mac hd hd2 hc hc2] at kc
  rw [add_mac hn hm hd hd2 hc hc2, sub_mac hn hm hd hd2 hc hc2, mul_mac hn hm hd hd2 hc hc2] at kf
  have k1 := fun W h => of_of n d (by omega) (by omega) (by omega) (by omega) W h
  have k2 := fun W h => of_of m c (by omega) (by omega) (by omega) (by omega) W h
  rw [make_mac hn hd hd2] at k1
  rw [make_mac hm hc hc2] at k2
  have pdc : d * c ≠ 0 := Int.mul_ne_zero (by omega) (by omega)
  have bdc : (d * c).natAbs < 30001 * 30001 := abs_mul (by omega) (by omega)
  have bnc : (n * c).natAbs < 30001 * 30001 := abs_mul (by omega) (by omega)
  have bmd : (m * d).natAbs < 30001 * 30001 := abs_mul (by omega) (by omega)
  have bnm : (n * m).natAbs < 30001 * 30001 := abs_mul (by omega) (by omega)
  have bdm : (d * m).natAbs < 30001 * 30001 := abs_mul (by omega) (by omega)
  have r0 := res_of (X := n * c + m * d) pdc (by omega) (by omega)
  have r1 := res_of (X := n * c - m * d) pdc (by omega) (by omega)
  have r2 := res_of (X := n * m) pdc (by omega) (by omega)
  by_cases h0 : m = 0
  · have e : divO (some (Rat.divInt n d)) (some (Rat.divInt m c)) = none := by rw [h0]; exact div_zero_mac
    rw [e] at kf
    exact ⟨_, _, _, _, _, _, _, _, _, _, _, _, _, _, _, _, _, _, _, 0, 0, k1, k2, kf, kc, r0, r1, r2, Or.inl ⟨h0, rfl, rfl, rfl⟩⟩
  · rw [div_mac hn hm hd hd2 hc hc2 h0] at kf
    have r3 := res_of (X := n * c) (Y := d * m) (Int.mul_ne_zero (by omega) h0) (by omega) (by omega)
    exact ⟨_, _, _, _, _, _, _, _, _, _, _, _, _, _, _, _, _, _, _, _, _, k1, k2, kf, kc, r0, r1, r2, Or.inr ⟨h0, rfl, r3⟩⟩
end

theorem row_setCells : ∀ (vs : List Value) (pre old : List Value) (W : World) (g : Nat) (t : TypeId), old.length = vs.length → Row W g t (pre ++ old).toArray → Row (W.setCells g pre.length vs) g t (pre ++ vs).toArray
  | [], pre, [], _, _, _, _, h => h
  | v :: vs, pre, x :: old, W, g, t, hl, h => by
    have h1 := h.stored pre.length v
    have e1 : ((pre ++ x :: old).toArray.setIfInBounds pre.length v) = ((pre ++ [v]) ++ old).toArray := by simp
    rw [e1] at h1
    have h2 := row_setCells vs (pre ++ [v]) old _ g t (by simpa using hl) h1
    rw [List.length_append, List.append_assoc] at h2
    exact h2
theorem row_apart : ∀ (vs : List Value) (o : Nat) (W : World) (b g : Nat) (t : TypeId) (C : Array Value), b ≠ g → Row W g t C → Row (W.setCells b o vs) g t C
  | [], _, _, _, _, _, _, _, h => h
  | v :: vs, o, W, b, g, t, C, hn, h => row_apart vs (o + 1) _ b g t C hn (h.aside (p := ⟨b, o, none⟩) hn v)
set_option maxHeartbeats 2000000 in
/-- Two new variables, of eight and of four cells, and what is stored into them. -/
theorem box84 {ops : Array Oper} {rest : List Oper} {a : Act} {w : World} {Q : Exit → Act → World → Prop} {x y : Nat} {o1 o2 o3 o4 : Oper} {p q : Operand} (v0 v1 v2 v3 v4 v5 v6 v7 u0 u1 u2 u3 : Value)
    (g1 : o1.guard = none) (g2 : o2.guard = none) (g3 : o3.guard = none) (g4 : o4.guard = none) (d1 : o1.dst = some x) (d2 : o2.dst = some y) (d3 : o3.dst = none) (d4 : o4.dst = none)
    (e1 : o1.op = .alloc 31) (e2 : o2.op = .alloc 33) (e3 : o3.op = .store 31 (.tmp x) p) (e4 : o4.op = .store 33 (.tmp y) q)
    (r1 : (execOp a.eval o1).run Tryz.prog w = .ok (.value (.pointer (some ⟨w.heap.size, 0, none⟩))) (w.alloc (.cells #[.string ⟨#[]⟩, .string ⟨#[]⟩, .string ⟨#[]⟩, .string ⟨#[]⟩, .string ⟨#[]⟩, .string ⟨#[]⟩, .string ⟨#[]⟩, .string ⟨#[]⟩] 31)))
    (r2 : ∀ (a' : Act) (w' : World), (execOp a'.eval o2).run Tryz.prog w' = .ok (.value (.pointer (some ⟨w'.heap.size, 0, none⟩))) (w'.alloc (.cells #[.int .i64 0, .int .i64 0, .int .i64 0, .int .i64 0] 33)))
    (hx : ((a.put (some x) (.pointer (some ⟨w.heap.size, 0, none⟩))).put (some y) (.pointer (some ⟨w.heap.size + 1, 0, none⟩))).eval (.tmp x) = .pointer (some ⟨w.heap.size, 0, none⟩))
    (hp : ((a.put (some x) (.pointer (some ⟨w.heap.size, 0, none⟩))).put (some y) (.pointer (some ⟨w.heap.size + 1, 0, none⟩))).eval p = .agg #[v0, v1, v2, v3, v4, v5, v6, v7])
    (hy : (((a.put (some x) (.pointer (some ⟨w.heap.size, 0, none⟩))).put (some y) (.pointer (some ⟨w.heap.size + 1, 0, none⟩))).put none undef).eval (.tmp y) = .pointer (some ⟨w.heap.size + 1, 0, none⟩))
    (hq : (((a.put (some x) (.pointer (some ⟨w.heap.size, 0, none⟩))).put (some y) (.pointer (some ⟨w.heap.size + 1, 0, none⟩))).put none undef).eval q = .agg #[u0, u1, u2, u3])
    (hv : ∀ v ∈ [v0, v1, v2, v3, v4, v5, v6, v7], v.oneCell' = true) (hu : ∀ v ∈ [u0, u1, u2, u3], v.oneCell' = true)
    (h : ∀ W, Below w.heap.size w W → Row W w.heap.size 31 #[v0, v1, v2, v3, v4, v5, v6, v7] → Row W (w.heap.size + 1) 33 #[u0, u1, u2, u3] →
      wpList Tryz.prog ops Q rest ((((a.put (some x) (.pointer (some ⟨w.heap.size, 0, none⟩))).put (some y) (.pointer (some ⟨w.heap.size + 1, 0, none⟩))).put none undef).put none undef) W) :
    wpList Tryz.prog ops Q (o1 :: o2 :: o3 :: o4 :: rest) a w := by
  refine Great.wpList_runTo g1 _ d1 _ _ r1 ?_
  refine Great.wpList_runTo g2 _ d2 _ _ (r2 _ _) ?_
  rw [World.size_alloc]
  have hr1 := (Row.made w 31 #[.string ⟨#[]⟩, .string ⟨#[]⟩, .string ⟨#[]⟩, .string ⟨#[]⟩, .string ⟨#[]⟩, .string ⟨#[]⟩, .string ⟨#[]⟩, .string ⟨#[]⟩]).later (.cells #[.int .i64 0, .int .i64 0, .int .i64 0, .int .i64 0] 33)
  have hr2 := Row.made_at (w.alloc (.cells #[.string ⟨#[]⟩, .string ⟨#[]⟩, .string ⟨#[]⟩, .string ⟨#[]⟩, .string ⟨#[]⟩, .string ⟨#[]⟩, .string ⟨#[]⟩, .string ⟨#[]⟩] 31)) 33 #[.int .i64 0, .int .i64 0, .int .i64 0, .int .i64 0] (World.size_alloc w _)
  have hb := keep_alloc (below_alloc w (.cells #[.string ⟨#[]⟩, .string ⟨#[]⟩, .string ⟨#[]⟩, .string ⟨#[]⟩, .string ⟨#[]⟩, .string ⟨#[]⟩, .string ⟨#[]⟩, .string ⟨#[]⟩] 31)) (.cells #[.int .i64 0, .int .i64 0, .int .i64 0, .int .i64 0] 33)
  generalize (w.alloc (.cells #[.string ⟨#[]⟩, .string ⟨#[]⟩, .string ⟨#[]⟩, .string ⟨#[]⟩, .string ⟨#[]⟩, .string ⟨#[]⟩, .string ⟨#[]⟩, .string ⟨#[]⟩] 31)).alloc (.cells #[.int .i64 0, .int .i64 0, .int .i64 0, .int .i64 0] 33) = W2 at *
  have t1 := row_there hr1 8 (by simp)
  have s1 := row_setCells [v0, v1, v2, v3, v4, v5, v6, v7] [] [.string ⟨#[]⟩, .string ⟨#[]⟩, .string ⟨#[]⟩, .string ⟨#[]⟩, .string ⟨#[]⟩, .string ⟨#[]⟩, .string ⟨#[]⟩, .string ⟨#[]⟩] W2 _ _ rfl hr1
  have s2 := row_apart [v0, v1, v2, v3, v4, v5, v6, v7] 0 W2 w.heap.size _ _ _ (by omega) hr2
  have hb2 := below_cells [v0, v1, v2, v3, v4, v5, v6, v7] 0 W2 (Nat.le_refl w.heap.size) hb
  have k1 := wpList_store_mid (P := Tryz.prog) (ops := ops) (rest := o4 :: rest) (Q := Q) g3 31 _ _ e3 w.heap.size 0 #[v0, v1, v2, v3, v4, v5, v6, v7] hx hp t1 (by kernel_rfl) (all_oneCell_toArray hv)
  refine k1 ?_
  clear k1
  rw [d3]
  generalize hW3 : W2.setCells w.heap.size 0 (#[v0, v1, v2, v3, v4, v5, v6, v7] : Array Value).toList = W3
  have s1' : Row W3 w.heap.size 31 #[v0, v1, v2, v3, v4, v5, v6, v7] := by rw [← hW3]; exact s1
  have s2' : Row W3 (w.heap.size + 1) 33 #[.int .i64 0, .int .i64 0, .int .i64 0, .int .i64 0] := by rw [← hW3]; exact s2
  have hb3 : Below w.heap.size w W3 := by rw [← hW3]; exact hb2
  clear hW3 s1 s2 hb2 t1 hr1 hr2 hb
  have t2 := row_there s2' 4 (by simp)
  have k2 := wpList_store_mid (P := Tryz.prog) (ops := ops) (rest := rest) (Q := Q) g4 33 _ _ e4 (w.heap.size + 1) 0 #[u0, u1, u2, u3] hy hq t2 (by kernel_rfl) (all_oneCell_toArray hu)
  refine k2 ?_
  clear k2
  rw [d4]
  refine h _ (below_cells [u0, u1, u2, u3] 0 W3 (by omega) hb3) (row_apart [u0, u1, u2, u3] 0 W3 (w.heap.size + 1) _ _ _ (by omega) s1') ?_
  exact row_setCells [u0, u1, u2, u3] [] [.int .i64 0, .int .i64 0, .int .i64 0, .int .i64 0] W3 _ _ rfl s2'

section
variable {P : Program} {ops : Array Oper} {C : World → Prop} {Q : Exit → Act → World → Prop}
/-- A list whose beginning only reads, by the quiet walk. -/
theorem wpList_quiet_pre : ∀ (l m : List Oper) (a : Act) (w : World), C w → wpQuiet P ops C (fun a' => ∀ w', C w' → wpList P ops Q m a' w') l a → wpList P ops Q (l ++ m) a w
  | [], _, _, w, hw, h => h w hw
  | o :: rest, m, a, w, hw, h => by
    rw [List.cons_append]
    unfold wpList
    unfold wpQuiet at h
    split
    · rename_i hwant
      rw [if_pos hwant] at h
      exact .inl (Oper.wp_of_quiet hw (fun a w' hw' hq => wpList_quiet_pre rest m a w' hw' hq) h)
    · rename_i hn
      rw [if_neg hn] at h
      exact wpList_quiet_pre rest m _ w hw h
theorem wp_region_quiet_pre (n : Nat) {id : Nat} {a : Act} {w : World} {l : List Oper} (h : wpQuiet P l.toArray (fun w' => ∃ p : Regrown, w' = Sort.grow (redrawn w p.d) p.os) (fun a' => ∀ w', (∃ p : Regrown, w' = Sort.grow (redrawn w p.d) p.os) → wpList P l.toArray Q (l.drop n) a' w') (l.take n) a) : (Code.region id l.toArray false).wp P Q a w :=
  wp_region_lit (by
    have := wpList_quiet_pre (P := P) (ops := l.toArray) (Q := Q) (l.take n) (l.drop n) a w ⟨⟨w.drawn, #[]⟩, by rw [Sort.grow_empty]; rfl⟩ h
    rwa [List.take_append_drop] at this)
end
set_option maxHeartbeats 2000000 in
/-- A new variable of two cells, and what is stored into it. -/
theorem box2 {ops : Array Oper} {rest : List Oper} {a : Act} {w : World} {Q : Exit → Act → World → Prop} {x : Nat} {o1 o3 : Oper} {p : Operand} (v0 v1 : ByteArray)
    (g1 : o1.guard = none) (g3 : o3.guard = none) (d1 : o1.dst = some x) (d3 : o3.dst = none)
    (e3 : o3.op = .store 23 (.tmp x) p)
    (r1 : (execOp a.eval o1).run Tryz.prog w = .ok (.value (.pointer (some ⟨w.heap.size, 0, none⟩))) (w.alloc (.cells #[.string ⟨#[]⟩, .string ⟨#[]⟩] 23)))
    (hx : (a.put (some x) (.pointer (some ⟨w.heap.size, 0, none⟩))).eval (.tmp x) = .pointer (some ⟨w.heap.size, 0, none⟩))
    (hp : (a.put (some x) (.pointer (some ⟨w.heap.size, 0, none⟩))).eval p = .agg #[.string v0, .string v1])
    (h : ∀ W, Below w.heap.size w W → Row W w.heap.size 23 #[.string v0, .string v1] →
      wpList Tryz.prog ops Q rest ((a.put (some x) (.pointer (some ⟨w.heap.size, 0, none⟩))).put none undef) W) :
    wpList Tryz.prog ops Q (o1 :: o3 :: rest) a w := by
  refine Great.wpList_runTo g1 _ d1 _ _ r1 ?_
  have hr1 := Row.made w 23 #[.string ⟨#[]⟩, .string ⟨#[]⟩]
  have hb := below_alloc w (.cells #[.string ⟨#[]⟩, .string ⟨#[]⟩] 23)
  generalize w.alloc (.cells #[.string ⟨#[]⟩, .string ⟨#[]⟩] 23) = W2 at *
  have t1 := row_there hr1 2 (by simp)
  have s1 := row_setCells [.string v0, .string v1] [] [.string ⟨#[]⟩, .string ⟨#[]⟩] W2 _ _ rfl hr1
  have hb2 := below_cells [.string v0, .string v1] 0 W2 (Nat.le_refl w.heap.size) hb
  have k1 := wpList_store_mid (P := Tryz.prog) (ops := ops) (rest := rest) (Q := Q) g3 23 _ _ e3 w.heap.size 0 #[.string v0, .string v1] hx hp t1 (by kernel_rfl) (all_oneCell_toArray (cs := [.string v0, .string v1]) (by simp [Value.oneCell']))
  refine k1 ?_
  rw [d3]
  exact h _ hb2 s1
theorem Gv.two2 {w W X : World} {l : List (Nat × TypeId × Array Value)} {C : Array Value} (h : Gv w l W) (hb : Below W.heap.size W X) (h1 : Row X W.heap.size 23 C) : Gv w ((W.heap.size, 23, C) :: l) X := ⟨below_step h.1 hb, h1, h.2.over hb⟩
theorem Gv.b {w W : World} {l : List (Nat × TypeId × Array Value)} (h : Gv w l W) : Below w.heap.size w W := h.1
theorem Gv.two84 {w W X : World} {l : List (Nat × TypeId × Array Value)} {C D : Array Value} (h : Gv w l W) (hb : Below W.heap.size W X) (h1 : Row X W.heap.size 31 C) (h2 : Row X (W.heap.size + 1) 33 D) : Gv w ((W.heap.size, 31, C) :: (W.heap.size + 1, 33, D) :: l) X := ⟨below_step h.1 hb, h1, h2, h.2.over hb⟩

set_option maxHeartbeats 2000000 in
/-- A new variable of eight integers, and what is stored into it. -/
theorem box8 {ops : Array Oper} {rest : List Oper} {a : Act} {w : World} {Q : Exit → Act → World → Prop} {x : Nat} {o1 o3 : Oper} {p : Operand} (v0 v1 v2 v3 v4 v5 v6 v7 : Int)
    (g1 : o1.guard = none) (g3 : o3.guard = none) (d1 : o1.dst = some x) (d3 : o3.dst = none)
    (e3 : o3.op = .store 51 (.tmp x) p)
    (r1 : (execOp a.eval o1).run Tryz.prog w = .ok (.value (.pointer (some ⟨w.heap.size, 0, none⟩))) (w.alloc (.cells #[.int .i64 0, .int .i64 0, .int .i64 0, .int .i64 0, .int .i64 0, .int .i64 0, .int .i64 0, .int .i64 0] 51)))
    (hx : (a.put (some x) (.pointer (some ⟨w.heap.size, 0, none⟩))).eval (.tmp x) = .pointer (some ⟨w.heap.size, 0, none⟩))
    (hp : (a.put (some x) (.pointer (some ⟨w.heap.size, 0, none⟩))).eval p = .agg #[.int .i64 v0, .int .i64 v1, .int .i64 v2, .int .i64 v3, .int .i64 v4, .int .i64 v5, .int .i64 v6, .int .i64 v7])
    (h : ∀ W, Below w.heap.size w W → Row W w.heap.size 51 #[.int .i64 v0, .int .i64 v1, .int .i64 v2, .int .i64 v3, .int .i64 v4, .int .i64 v5, .int .i64 v6, .int .i64 v7] →
      wpList Tryz.prog ops Q rest ((a.put (some x) (.pointer (some ⟨w.heap.size, 0, none⟩))).put none undef) W) :
    wpList Tryz.prog ops Q (o1 :: o3 :: rest) a w := by
  refine Great.wpList_runTo g1 _ d1 _ _ r1 ?_
  have hr1 := Row.made w 51 #[.int .i64 0, .int .i64 0, .int .i64 0, .int .i64 0, .int .i64 0, .int .i64 0, .int .i64 0, .int .i64 0]
  have hb := below_alloc w (.cells #[.int .i64 0, .int .i64 0, .int .i64 0, .int .i64 0, .int .i64 0, .int .i64 0, .int .i64 0, .int .i64 0] 51)
  generalize w.alloc (.cells #[.int .i64 0, .int .i64 0, .int .i64 0, .int .i64 0, .int .i64 0, .int .i64 0, .int .i64 0, .int .i64 0] 51) = W2 at *
  have t1 := row_there hr1 8 (by simp)
  have s1 := row_setCells [.int .i64 v0, .int .i64 v1, .int .i64 v2, .int .i64 v3, .int .i64 v4, .int .i64 v5, .int .i64 v6, .int .i64 v7] [] [.int .i64 0, .int .i64 0, .int .i64 0, .int .i64 0, .int .i64 0, .int .i64 0, .int .i64 0, .int .i64 0] W2 _ _ rfl hr1
  have hb2 := below_cells [.int .i64 v0, .int .i64 v1, .int .i64 v2, .int .i64 v3, .int .i64 v4, .int .i64 v5, .int .i64 v6, .int .i64 v7] 0 W2 (Nat.le_refl w.heap.size) hb
  have k1 := wpList_store_mid (P := Tryz.prog) (ops := ops) (rest := rest) (Q := Q) g3 51 _ _ e3 w.heap.size 0 #[.int .i64 v0, .int .i64 v1, .int .i64 v2, .int .i64 v3, .int .i64 v4, .int .i64 v5, .int .i64 v6, .int .i64 v7] hx hp t1 (by kernel_rfl) (all_oneCell_toArray (cs := [.int .i64 v0, .int .i64 v1, .int .i64 v2, .int .i64 v3, .int .i64 v4, .int .i64 v5, .int .i64 v6, .int .i64 v7]) (by simp [Value.oneCell']))
  refine k1 ?_
  rw [d3]
  exact h _ hb2 s1
theorem Gv.two8 {w W X : World} {l : List (Nat × TypeId × Array Value)} {C : Array Value} (h : Gv w l W) (hb : Below W.heap.size W X) (h1 : Row X W.heap.size 51 C) : Gv w ((W.heap.size, 51, C) :: l) X := ⟨below_step h.1 hb, h1, h.2.over hb⟩

set_option maxRecDepth 1000000 in
set_option maxHeartbeats 40000000 in
theorem machine_walk (n d m c : Int) (hn : I64 n) (hd : I64 d) (hm : I64 m) (hc : I64 c) (w : World) (ht : Tab w)
    (hsane : ∀ W, Tab W → Calls Tryz.prog 11 #[] W fun e w' => e = .returned (.bool true) ∧ Below W.heap.size W w') :
    Calls Tryz.prog 5 #[.int .i64 n, .int .i64 d, .int .i64 m, .int .i64 c] w fun e w' => e = .returned (.bool true) ∧ Below w.heap.size w w' := by
  have pn := fun W => pick_of n 60001 (by decide) hn.1 hn.2 W
  have an := pkI_lo (c := n) (n := 60001) (by decide)
  have zn := pkI_hi (c := n) (n := 60001) (by decide)
  generalize pkI n 60001 = n0 at *
  have pm := fun W => pick_of m 60001 (by decide) hm.1 hm.2 W
  have am := pkI_lo (c := m) (n := 60001) (by decide)
  have zm := pkI_hi (c := m) (n := 60001) (by decide)
  generalize pkI m 60001 = m0 at *
  have pd := fun W => pick_of d 30000 (by decide) hd.1 hd.2 W
  have ad := pkI_lo (c := d) (n := 30000) (by decide)
  have zd := pkI_hi (c := d) (n := 30000) (by decide)
  generalize pkI d 30000 = d0 at *
  have pc := fun W => pick_of c 30000 (by decide) hc.1 hc.2 W
  have ac := pkI_lo (c := c) (n := 30000) (by decide)
  have zc := pkI_hi (c := c) (n := 30000) (by decide)
  generalize pkI c 30000 = c0 at *
  have v0 : Iv w [] w := ⟨Below.refl _ _, trivial⟩
  have T0 := Lib.hid ht; have CS := Lib.hid hsane; have PN := Lib.hid pn; have PM := Lib.hid pm; have PD := Lib.hid pd; have PC := Lib.hid pc; have V0 := v0
  clear ht hsane pn pm pd pc v0 hn hm hd hc
  go_enter Tryz.func5, Tryz.ntmps5
  go_upto_region 6 with (first
    | (go_at_call 11; (with_reducible refine (CS.out _ T0.out).mono ?_); rintro e w1 ⟨rfl, b1⟩; have V1 := Iv.step V0 b1)
    | (go_at_call 22; (with_reducible refine (PN.out _).mono ?_); rintro e wx ⟨rfl, hwx⟩; have hwx := hwx.symm; subst hwx)
    | (go_at_call 22; (with_reducible refine (PM.out _).mono ?_); rintro e wx ⟨rfl, hwx⟩; have hwx := hwx.symm; subst hwx)
    | (go_at_call 22; (with_reducible refine (PD.out _).mono ?_); rintro e wx ⟨rfl, hwx⟩; have hwx := hwx.symm; subst hwx)
    | (go_at_call 22; (with_reducible refine (PC.out _).mono ?_); rintro e wx ⟨rfl, hwx⟩; have hwx := hwx.symm; subst hwx)
    | fail)
  obtain ⟨N, hN⟩ : ∃ x, x = n0 - 30000 := ⟨_, rfl⟩
  obtain ⟨M, hM⟩ : ∃ x, x = m0 - 30000 := ⟨_, rfl⟩
  obtain ⟨D, hD⟩ : ∃ x, x = 1 + d0 := ⟨_, rfl⟩
  obtain ⟨C, hC⟩ : ∃ x, x = 1 + c0 := ⟨_, rfl⟩
  rw [← hN, ← hM, ← hD, ← hC]
  have bN : N.natAbs ≤ 30000 := by omega
  have bM : M.natAbs ≤ 30000 := by omega
  have d1 : 1 ≤ D := by omega
  have d2 : D ≤ 30000 := by omega
  have c1 : 1 ≤ C := by omega
  have c2 : C ≤ 30000 := by omega
  clear hN hM hD hC an zn am zm ad zd ac zc PN PM PD PC CS
  obtain ⟨Na, Da, Nb, Db, s0, u0, s1, u1, s2, u2, s3, u3, e3, x0, y0, x1, y1, x2, y2, x3, y3, k1, k2, kf, kc, r0, r1, r2, r3⟩ := mac_all bN bM d1 d2 c1 c2
  have qnc : (N * C).natAbs < 30001 * 30001 := abs_mul (by omega) (by omega)
  have qmd : (M * D).natAbs < 30001 * 30001 := abs_mul (by omega) (by omega)
  have qdc : (D * C).natAbs < 30001 * 30001 := abs_mul (by omega) (by omega)
  have qnm : (N * M).natAbs < 30001 * 30001 := abs_mul (by omega) (by omega)
  have qdm : (D * M).natAbs < 30001 * 30001 := abs_mul (by omega) (by omega)
  have lnc : -900060002 < N * C := by omega
  have hnc : N * C < 900060002 := by omega
  have lmd : -900060002 < M * D := by omega
  have hmd : M * D < 900060002 := by omega
  have ldc : -900060002 < D * C := by omega
  have hdc : D * C < 900060002 := by omega
  have lnm : -900060002 < N * M := by omega
  have hnm : N * M < 900060002 := by omega
  have ldm : -900060002 < D * M := by omega
  have hdm : D * M < 900060002 := by omega
  clear qnc qmd qdc qnm qdm
  have K1 := Lib.hid k1; have K2 := Lib.hid k2; have KF := Lib.hid kf; have KC := Lib.hid kc; have R0 := Lib.hid r0; have R1 := Lib.hid r1; have R2 := Lib.hid r2; have R3 := Lib.hid r3
  clear k1 k2 kf kc r0 r1 r2 r3 bN bM d1 d2 c1 c2
  go_upto_region 8 with (first
    | (go_at_call 31; (with_reducible refine (K1.out _ (T0.out.below (Iv.b V1))).mono ?_); rintro e w2 ⟨rfl, b2⟩; have V2 := Iv.push (Iv.step V1 b2) Na Da)
    | (go_at_call 31; (with_reducible refine (K2.out _ (T0.out.below (Iv.b V2))).mono ?_); rintro e w3 ⟨rfl, b3⟩; have V3 := Iv.push (Iv.step V2 b3) Nb Db)
    | fail)
  obtain ⟨W0, hW0⟩ : ∃ W0, W0 = w3.alloc (.cells #[.string Nb, .string Db] 23) := ⟨_, rfl⟩
  rw [← hW0] at V3 ⊢
  have gx : Gv w ((w3.heap.size, 23, #[.string Nb, .string Db]) :: (w2.heap.size, 23, #[.string Na, .string Da]) :: []) W0 := ⟨V3.1, V3.2.1, V3.2.2.1, trivial⟩
  have G0 := Lib.hid gx
  clear gx hW0 V0 V1 V2 V3 b1 b2 b3
  have f0 := (G0.out.2.2.1).at (i := 0) (v := .string Na) rfl; have f1 := (G0.out.2.2.1).at (i := 1) (v := .string Da) rfl; have f2 := (G0.out.2.1).at (i := 0) (v := .string Nb) rfl; have f3 := (G0.out.2.1).at (i := 1) (v := .string Db) rfl
  have Kf0 := cell_regrown f0; have Kf1 := cell_regrown f1; have Kf2 := cell_regrown f2; have Kf3 := cell_regrown f3
  clear f0 f1 f2 f3
  refine wp_region_quiet_pre 6 ?_
  dsimp only [List.take_succ_cons, List.take_zero, List.drop_succ_cons, List.drop_zero]
  repeat (go_big_quiet_step (first | (go_at_call 15; with_reducible exact Calls.regrown_of (KF.out _ (T0.out.below (Gv.b (Gv.step G0.out (below_regrown _ _ _)))))) | fail))
  refine wpQuiet_nil ?_; intro _ hw'; obtain ⟨⟨dq, osq⟩, hw''⟩ := hw'
  have H5 := Lib.hid (Gv.step G0.out (below_regrown W0 dq osq))
  rw [← hw''] at H5
  rename_i v5
  clear hw'' G0 Kf0 Kf1 Kf2 Kf3
  refine box84 (.string s0) (.string u0) (.string s1) (.string u1) (.string s2) (.string u2) (.string s3) (.string u3) (.int .i64 0) (.int .i64 0) (.int .i64 0) (.int .i64 e3) rfl rfl rfl rfl rfl rfl rfl rfl rfl rfl rfl rfl (by kernel_rfl) (fun _ _ => by kernel_rfl) rfl rfl rfl rfl (by simp [Value.oneCell']) (by simp [Value.oneCell']) ?_; intro W5 b1 r1 r2; have G5 := Lib.hid (Gv.two84 H5.out b1 r1 r2); clear b1 r1 r2 H5
  refine wpList_nil ?_
  simp only [Act.put, List.setIfInBounds_toArray, List.set_cons_zero, List.set_cons_succ]
  go_upto_region 9 with (fail)
  refine wp_region_quiet_pre 37 ?_
  dsimp only [List.take_succ_cons, List.take_zero, List.drop_succ_cons, List.drop_zero]
  repeat (go_big_quiet_step (fail))
  refine wpQuiet_nil ?_; intro _ hw'; obtain ⟨⟨dq, osq⟩, hw''⟩ := hw'
  have H6 := Lib.hid (Gv.step G5.out (below_regrown W5 dq osq))
  rw [← hw''] at H6
  rename_i v6
  clear hw'' G5
  refine box8 (N * C + M * D) (D * C) (N * C - M * D) (D * C) (N * M) (D * C) (N * C) (D * M) rfl rfl rfl rfl rfl (by kernel_rfl) rfl rfl ?_; intro W6 b1 r1; have hg := Gv.two8 H6.out b1 r1; clear b1 r1 H6
  refine wpList_nil ?_
  simp only [Act.put, List.setIfInBounds_toArray, List.set_cons_zero, List.set_cons_succ]
  obtain ⟨P0, e0⟩ : ∃ P, N * C + M * D = P := ⟨_, rfl⟩
  obtain ⟨P1, e1⟩ : ∃ P, D * C = P := ⟨_, rfl⟩
  obtain ⟨P2, e2⟩ : ∃ P, N * C - M * D = P := ⟨_, rfl⟩
  obtain ⟨P4, e4⟩ : ∃ P, N * M = P := ⟨_, rfl⟩
  obtain ⟨P6, e6⟩ : ∃ P, N * C = P := ⟨_, rfl⟩
  obtain ⟨P7, e7⟩ : ∃ P, D * M = P := ⟨_, rfl⟩
  rw [e0, e1, e2, e4, e6, e7] at hg
  have q0 := R0.out; rw [e0, e1] at q0
  have q1 := R1.out; rw [e2, e1] at q1
  have q2 := R2.out; rw [e4, e1] at q2
  have q3 := R3.out; rw [e6, e7] at q3
  clear e0 e1 e2 e4 e6 e7 R0 R1 R2 R3
  have R0 := Lib.hid q0; have R1 := Lib.hid q1; have R2 := Lib.hid q2; have R3 := Lib.hid q3; have G6 := Lib.hid hg
  clear q0 q1 q2 q3 hg
  go_wp2_with fail
  go_loopg [17] 4 (fun kx s17 wr => ((s17 = .int .i64 0 ∧ kx = 4) ∨ (s17 = .int .i64 1 ∧ kx = 3) ∨ (s17 = .int .i64 2 ∧ kx = 2) ∨ (s17 = .int .i64 3 ∧ kx = 1) ∨ (s17 = .int .i64 4 ∧ kx = 0)) ∧ Gv w ((v6.heap.size, 51, #[.int .i64 P0, .int .i64 P1, .int .i64 P2, .int .i64 P1, .int .i64 P4, .int .i64 P1, .int .i64 P6, .int .i64 P7]) :: (v5.heap.size, 31, #[.string s0, .string u0, .string s1, .string u1, .string s2, .string u2, .string s3, .string u3]) :: (v5.heap.size + 1, 33, #[.int .i64 0, .int .i64 0, .int .i64 0, .int .i64 e3]) :: (w3.heap.size, 23, #[.string Nb, .string Db]) :: (w2.heap.size, 23, #[.string Na, .string Da]) :: []) wr)
  case atStart => exact ⟨Or.inl ⟨rfl, rfl⟩, G6.out⟩
  case round =>
    clear G6
    obtain ⟨hk, hg⟩ := hrel
    have G := Lib.hid hg
    clear hg
    rcases hk with ⟨rfl, rfl⟩ | ⟨rfl, rfl⟩ | ⟨rfl, rfl⟩ | ⟨rfl, rfl⟩ | ⟨rfl, rfl⟩
    case inl => as_aux_lemma =>
      have RR := R0
      have t0 := (G.out.2.2.1).at (i := 0) (v := .string s0) rfl
      go_upto_region 17 with (first | (go_at_call 37; (with_reducible refine (RR.out.one _).mono ?_); rintro e wy1 ⟨rfl, b1⟩; have G1 := Lib.hid (Gv.step G.out b1)) | fail)
      have t1 := (G1.out.2.2.1).at (i := 1) (v := .string u0) rfl
      clear t0
      go_upto_region 18 with (first | (go_at_call 37; (with_reducible refine (RR.out.two _).mono ?_); rintro e wy2 ⟨rfl, b2⟩; have G2 := Lib.hid (Gv.step G1.out b2)) | fail)
      clear t1 b1 b2 G1 G
      have f0 := (G2.out.2.2.2.1).at (i := 0) (v := .int .i64 0) rfl; have f1 := (G2.out.2.1).at (i := 0) (v := .int .i64 P0) rfl; have f2 := (G2.out.2.1).at (i := 1) (v := .int .i64 P1) rfl; have f3 := (G2.out.2.2.1).at (i := 0) (v := .string s0) rfl; have f4 := (G2.out.2.2.1).at (i := 1) (v := .string u0) rfl
      have Kf0 := cell_regrown f0; have Kf1 := cell_regrown f1; have Kf2 := cell_regrown f2; have Kf3 := cell_regrown f3; have Kf4 := cell_regrown f4
      clear f0 f1 f2 f3 f4
      have hden : ¬ y0 < 1 := by have := RR.out.den; omega
      obtain ⟨Z, hZ⟩ : ∃ Z, Z = P0 * y0 := ⟨_, rfl⟩
      have hxy : x0 * P1 = Z := by rw [hZ]; exact RR.out.eq
      have hyx : P0 * y0 = Z := hZ.symm
      have bz : Z.natAbs < 2000000000 * 2000000000 := by rw [hZ]; exact abs_mul RR.out.bX RR.out.bd
      have bz1 : -9223372036854775808 ≤ Z := by omega
      have bz2 : Z ≤ 9223372036854775807 := by omega
      clear hZ bz
      refine wp_region_quiet_below (by kernel_rfl) (by kernel_rfl) ?_
      repeat (go_big_quiet_step (first | (go_at_call 29; with_reducible exact Calls.regrown_of (RR.out.ok _ (T0.out.below (Gv.b (Gv.step G2.out (below_regrown _ _ _)))))) | fail))
      refine wpQuiet_nil ?_; intro _ hw'; obtain ⟨⟨dq, osq⟩, hw''⟩ := hw'; subst hw''
      go_wp2_with fail
      go_roundg 3
      case measure => omega
      case rel => exact ⟨Or.inr (Or.inl ⟨rfl, rfl⟩), Gv.step G2.out (below_regrown _ _ _)⟩
    case inr.inl => as_aux_lemma =>
      have RR := R1
      have t0 := (G.out.2.2.1).at (i := 2) (v := .string s1) rfl
      go_upto_region 17 with (first | (go_at_call 37; (with_reducible refine (RR.out.one _).mono ?_); rintro e wy1 ⟨rfl, b1⟩; have G1 := Lib.hid (Gv.step G.out b1)) | fail)
      have t1 := (G1.out.2.2.1).at (i := 3) (v := .string u1) rfl
      clear t0
      go_upto_region 18 with (first | (go_at_call 37; (with_reducible refine (RR.out.two _).mono ?_); rintro e wy2 ⟨rfl, b2⟩; have G2 := Lib.hid (Gv.step G1.out b2)) | fail)
      clear t1 b1 b2 G1 G
      have f0 := (G2.out.2.2.2.1).at (i := 1) (v := .int .i64 0) rfl; have f1 := (G2.out.2.1).at (i := 2) (v := .int .i64 P2) rfl; have f2 := (G2.out.2.1).at (i := 3) (v := .int .i64 P1) rfl; have f3 := (G2.out.2.2.1).at (i := 2) (v := .string s1) rfl; have f4 := (G2.out.2.2.1).at (i := 3) (v := .string u1) rfl
      have Kf0 := cell_regrown f0; have Kf1 := cell_regrown f1; have Kf2 := cell_regrown f2; have Kf3 := cell_regrown f3; have Kf4 := cell_regrown f4
      clear f0 f1 f2 f3 f4
      have hden : ¬ y1 < 1 := by have := RR.out.den; omega
      obtain ⟨Z, hZ⟩ : ∃ Z, Z = P2 * y1 := ⟨_, rfl⟩
      have hxy : x1 * P1 = Z := by rw [hZ]; exact RR.out.eq
      have hyx : P2 * y1 = Z := hZ.symm
      have bz : Z.natAbs < 2000000000 * 2000000000 := by rw [hZ]; exact abs_mul RR.out.bX RR.out.bd
      have bz1 : -9223372036854775808 ≤ Z := by omega
      have bz2 : Z ≤ 9223372036854775807 := by omega
      clear hZ bz
      refine wp_region_quiet_below (by kernel_rfl) (by kernel_rfl) ?_
      repeat (go_big_quiet_step (first | (go_at_call 29; with_reducible exact Calls.regrown_of (RR.out.ok _ (T0.out.below (Gv.b (Gv.step G2.out (below_regrown _ _ _)))))) | fail))
      refine wpQuiet_nil ?_; intro _ hw'; obtain ⟨⟨dq, osq⟩, hw''⟩ := hw'; subst hw''
      go_wp2_with fail
      go_roundg 2
      case measure => omega
      case rel => exact ⟨Or.inr (Or.inr (Or.inl ⟨rfl, rfl⟩)), Gv.step G2.out (below_regrown _ _ _)⟩
    case inr.inr.inl => as_aux_lemma =>
      have RR := R2
      have t0 := (G.out.2.2.1).at (i := 4) (v := .string s2) rfl
      go_upto_region 17 with (first | (go_at_call 37; (with_reducible refine (RR.out.one _).mono ?_); rintro e wy1 ⟨rfl, b1⟩; have G1 := Lib.hid (Gv.step G.out b1)) | fail)
      have t1 := (G1.out.2.2.1).at (i := 5) (v := .string u2) rfl
      clear t0
      go_upto_region 18 with (first | (go_at_call 37; (with_reducible refine (RR.out.two _).mono ?_); rintro e wy2 ⟨rfl, b2⟩; have G2 := Lib.hid (Gv.step G1.out b2)) | fail)
      clear t1 b1 b2 G1 G
      have f0 := (G2.out.2.2.2.1).at (i := 2) (v := .int .i64 0) rfl; have f1 := (G2.out.2.1).at (i := 4) (v := .int .i64 P4) rfl; have f2 := (G2.out.2.1).at (i := 5) (v := .int .i64 P1) rfl; have f3 := (G2.out.2.2.1).at (i := 4) (v := .string s2) rfl; have f4 := (G2.out.2.2.1).at (i := 5) (v := .string u2) rfl
      have Kf0 := cell_regrown f0; have Kf1 := cell_regrown f1; have Kf2 := cell_regrown f2; have Kf3 := cell_regrown f3; have Kf4 := cell_regrown f4
      clear f0 f1 f2 f3 f4
      have hden : ¬ y2 < 1 := by have := RR.out.den; omega
      obtain ⟨Z, hZ⟩ : ∃ Z, Z = P4 * y2 := ⟨_, rfl⟩
      have hxy : x2 * P1 = Z := by rw [hZ]; exact RR.out.eq
      have hyx : P4 * y2 = Z := hZ.symm
      have bz : Z.natAbs < 2000000000 * 2000000000 := by rw [hZ]; exact abs_mul RR.out.bX RR.out.bd
      have bz1 : -9223372036854775808 ≤ Z := by omega
      have bz2 : Z ≤ 9223372036854775807 := by omega
      clear hZ bz
      refine wp_region_quiet_below (by kernel_rfl) (by kernel_rfl) ?_
      repeat (go_big_quiet_step (first | (go_at_call 29; with_reducible exact Calls.regrown_of (RR.out.ok _ (T0.out.below (Gv.b (Gv.step G2.out (below_regrown _ _ _)))))) | fail))
      refine wpQuiet_nil ?_; intro _ hw'; obtain ⟨⟨dq, osq⟩, hw''⟩ := hw'; subst hw''
      go_wp2_with fail
      go_roundg 1
      case measure => omega
      case rel => exact ⟨Or.inr (Or.inr (Or.inr (Or.inl ⟨rfl, rfl⟩))), Gv.step G2.out (below_regrown _ _ _)⟩
    case inr.inr.inr.inl => as_aux_lemma =>
      rcases R3.out with ⟨hm0, he3, hs3, hu3⟩ | ⟨hm0, he3, hr3⟩
      · rw [he3, hs3, hu3] at G
        have f0 := (G.out.2.2.2.1).at (i := 3) (v := .int .i64 40) rfl; have f1 := (G.out.2.2.1).at (i := 6) (v := .string ⟨#[]⟩) rfl; have f2 := (G.out.2.2.1).at (i := 7) (v := .string ⟨#[]⟩) rfl
        go_wp2_with fail
        go_roundg 0
        case measure => omega
        case rel => exact ⟨Or.inr (Or.inr (Or.inr (Or.inr ⟨rfl, rfl⟩))), by rw [he3, hs3, hu3]; exact G.out⟩
      · subst he3
        have H3 := Lib.hid hr3
        clear hr3
        have RR := H3
        have t0 := (G.out.2.2.1).at (i := 6) (v := .string s3) rfl
        go_upto_region 17 with (first | (go_at_call 37; (with_reducible refine (RR.out.one _).mono ?_); rintro e wy1 ⟨rfl, b1⟩; have G1 := Lib.hid (Gv.step G.out b1)) | fail)
        have t1 := (G1.out.2.2.1).at (i := 7) (v := .string u3) rfl
        clear t0
        go_upto_region 18 with (first | (go_at_call 37; (with_reducible refine (RR.out.two _).mono ?_); rintro e wy2 ⟨rfl, b2⟩; have G2 := Lib.hid (Gv.step G1.out b2)) | fail)
        clear t1 b1 b2 G1 G
        have f0 := (G2.out.2.2.2.1).at (i := 3) (v := .int .i64 0) rfl; have f1 := (G2.out.2.1).at (i := 6) (v := .int .i64 P6) rfl; have f2 := (G2.out.2.1).at (i := 7) (v := .int .i64 P7) rfl; have f3 := (G2.out.2.2.1).at (i := 6) (v := .string s3) rfl; have f4 := (G2.out.2.2.1).at (i := 7) (v := .string u3) rfl
        have Kf0 := cell_regrown f0; have Kf1 := cell_regrown f1; have Kf2 := cell_regrown f2; have Kf3 := cell_regrown f3; have Kf4 := cell_regrown f4
        clear f0 f1 f2 f3 f4
        have hden : ¬ y3 < 1 := by have := RR.out.den; omega
        obtain ⟨Z, hZ⟩ : ∃ Z, Z = P6 * y3 := ⟨_, rfl⟩
        have hxy : x3 * P7 = Z := by rw [hZ]; exact RR.out.eq
        have hyx : P6 * y3 = Z := hZ.symm
        have bz : Z.natAbs < 2000000000 * 2000000000 := by rw [hZ]; exact abs_mul RR.out.bX RR.out.bd
        have bz1 : -9223372036854775808 ≤ Z := by omega
        have bz2 : Z ≤ 9223372036854775807 := by omega
        clear hZ bz
        refine wp_region_quiet_below (by kernel_rfl) (by kernel_rfl) ?_
        repeat (go_big_quiet_step (first | (go_at_call 29; with_reducible exact Calls.regrown_of (RR.out.ok _ (T0.out.below (Gv.b (Gv.step G2.out (below_regrown _ _ _)))))) | fail))
        refine wpQuiet_nil ?_; intro _ hw'; obtain ⟨⟨dq, osq⟩, hw''⟩ := hw'; subst hw''
        go_wp2_with fail
        go_roundg 0
        case measure => omega
        case rel => exact ⟨Or.inr (Or.inr (Or.inr (Or.inr ⟨rfl, rfl⟩))), Gv.step G2.out (below_regrown _ _ _)⟩
    case inr.inr.inr.inr => as_aux_lemma =>
      have f0 := (G.out.2.2.2.2.2.1).at (i := 0) (v := .string Na) rfl; have f1 := (G.out.2.2.2.2.2.1).at (i := 1) (v := .string Da) rfl; have f2 := (G.out.2.2.2.2.1).at (i := 0) (v := .string Nb) rfl; have f3 := (G.out.2.2.2.2.1).at (i := 1) (v := .string Db) rfl
      have kc := KC.out
      unfold cmpI at kc
      by_cases h1 : N * C < M * D
      · rw [if_pos h1] at kc
        have KD := Lib.hid kc
        clear kc KC
        go_wp2_with (first | (go_at_call 20; (with_reducible refine (KD.out _ (T0.out.below (Gv.b G.out))).mono ?_); rintro e wy1 ⟨rfl, b1⟩) | fail)
        go_ret
        exact ⟨rfl, below_step (Gv.b G.out) b1⟩
      · rw [if_neg h1] at kc
        by_cases h2 : M * D < N * C
        · rw [if_pos h2] at kc
          have KD := Lib.hid kc
          clear kc KC
          go_wp2_with (first | (go_at_call 20; (with_reducible refine (KD.out _ (T0.out.below (Gv.b G.out))).mono ?_); rintro e wy1 ⟨rfl, b1⟩) | fail)
          go_ret
          exact ⟨rfl, below_step (Gv.b G.out) b1⟩
        · rw [if_neg h2] at kc
          have KD := Lib.hid kc
          clear kc KC
          go_wp2_with (first | (go_at_call 20; (with_reducible refine (KD.out _ (T0.out.below (Gv.b G.out))).mono ?_); rintro e wy1 ⟨rfl, b1⟩) | fail)
          go_ret
          exact ⟨rfl, below_step (Gv.b G.out) b1⟩
end Go.Proofs.YtgpncnnlhhmjaaaGreatDoor
