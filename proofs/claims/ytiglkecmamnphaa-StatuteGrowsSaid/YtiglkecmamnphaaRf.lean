/- pick, part, bits, Ask: what the reference makes of integers. -/
import Derived.Test.YtiglkecmamnphaaUn
import Derived.Deep.LoopGhost
import Derived.StillTailTactics
namespace Go.Proofs.Ytiglkecmamnphaa
open Go.RowKit Go.Sort Go.Lib

def pk (c n : Int) : Int := (if c < 0 then -(c + 1) else c) % n
theorem pk_range {c n : Int} (hn : 0 < n) : 0 ≤ pk c n ∧ pk c n < n := ⟨Int.emod_nonneg _ (by omega), Int.emod_lt_of_pos _ hn⟩
set_option maxRecDepth 100000 in
theorem pick_any (c n : Int) (c1 : -9223372036854775808 ≤ c) (c2 : c ≤ 9223372036854775807) (n1 : 0 < n) (n2 : n ≤ 9223372036854775807) (w : World) :
    Calls Try.prog 16 #[.int .i64 c, .int .i64 n] w fun e w' => e = .returned (.int .i64 (pk c n)) ∧ w' = w := by
  have hr := pk_range (c := c) n1
  by_cases h : c < 0
  · have e : (-(c + 1)).tmod n = pk c n := by rw [Int.tmod_eq_emod_of_nonneg (by omega), pk, if_pos h]
    generalize pk c n = r at *
    go_enter Try.func16, Try.ntmps16
    go_wp2
    go_ret
    exact ⟨rfl, rfl⟩
  · have e : c.tmod n = pk c n := by rw [Int.tmod_eq_emod_of_nonneg (by omega), pk, if_neg h]
    generalize pk c n = r at *
    go_enter Try.func16, Try.ntmps16
    go_wp2
    go_ret
    exact ⟨rfl, rfl⟩
set_option maxRecDepth 100000 in
theorem rpick_any (c n : Int) (c1 : -9223372036854775808 ≤ c) (c2 : c ≤ 9223372036854775807) (n1 : 0 < n) (n2 : n ≤ 9223372036854775807) (w : World) :
    Calls Try.prog 27 #[.int .i64 c, .int .i64 n] w fun e w' => e = .returned (.int .i64 (pk c n)) ∧ w' = w := by
  have hr := pk_range (c := c) n1
  by_cases h : c < 0
  · have e : (-(c + 1)).tmod n = pk c n := by rw [Int.tmod_eq_emod_of_nonneg (by omega), pk, if_pos h]
    generalize pk c n = r at *
    go_enter Try.func27, Try.ntmps27
    go_wp2
    go_ret
    exact ⟨rfl, rfl⟩
  · have e : c.tmod n = pk c n := by rw [Int.tmod_eq_emod_of_nonneg (by omega), pk, if_neg h]
    generalize pk c n = r at *
    go_enter Try.func27, Try.ntmps27
    go_wp2
    go_ret
    exact ⟨rfl, rfl⟩

abbrev In64 (z : Int) : Prop := -9223372036854775808 ≤ z ∧ z ≤ 9223372036854775807
/-- A spell that two integers determine. -/
def partI (a b : Int) : Int × Int := (pk a 50, pk a 50 + 1 + pk b 50)
theorem load_spell {w : World} {g : Nat} {t : TypeId} {a b : Value} (h : Row w g t #[a, b]) : (loadVar 48 ⟨g, 0, none⟩).run Try.prog w = .ok (.agg #[a, b]) w := by
  obtain ⟨k0, k1, _, _⟩ := h.two
  simp [loadVar, go_sem, k0, k1]
theorem res_spell {fn : Func} {p : Tmp} {tmps : Array Value} {w : World} {g : Nat} {t : TypeId} {a b : Value} (h : fn.results = #[.cell p 48]) (hp : tmps.getD p undef = .pointer (some ⟨g, 0, none⟩)) (hr : Row w g t #[a, b]) : (results fn tmps).run Try.prog w = .ok (.agg #[a, b]) w := by
  have hl := load_spell hr
  have ha := asAddr_ptr (w := w) hp
  simp only [results, h]
  simp [Sem.run_bind, Result.andThen, ha, hl, -Array.getD_eq_getD_getElem?]
set_option maxRecDepth 100000 in
set_option maxHeartbeats 4000000 in
theorem part_any (a b : Int) (ha : In64 a) (hb : In64 b) (w : World) :
    Calls Try.prog 28 #[.int .i64 a, .int .i64 b] w fun e w' => e = .returned (.agg #[.int .i64 (partI a b).1, .int .i64 (partI a b).2]) ∧ Below w.heap.size w w' := by
  have pa := fun (W : World) => rpick_any a 50 ha.1 ha.2 (by omega) (by omega) W
  have pb := fun (W : World) => rpick_any b 50 hb.1 hb.2 (by omega) (by omega) W
  have ra := pk_range (c := a) (n := 50) (by omega)
  have rb := pk_range (c := b) (n := 50) (by omega)
  unfold partI
  dsimp only
  generalize pk a 50 = x at *
  generalize pk b 50 = y at *
  have PA := Lib.hid pa; have PB := Lib.hid pb
  clear pa pb ha hb
  obtain ⟨ra1, ra2⟩ := ra
  obtain ⟨rb1, rb2⟩ := rb
  have r0 := Row.made w 48 #[.int .i64 0, .int .i64 0]
  obtain ⟨k0, k1, _, _⟩ := r0.two
  have f0 := r0.free 0
  have f1 := r0.free 1
  have R0 := Lib.hid r0
  clear r0
  have w1 : wrap64 (x + 1) = x + 1 := Go.IntWalk.wrap64_in _ ⟨by omega, by omega⟩
  have w2 : wrap64 (x + 1 + y) = x + 1 + y := Go.IntWalk.wrap64_in _ ⟨by omega, by omega⟩
  go_enter Try.func28, Try.ntmps28
  go_wp2_with (first
    | (go_at_call 27; (with_reducible refine (PA.out _).mono ?_); rintro e w3 ⟨rfl, rfl⟩)
    | (go_at_call 27; (with_reducible refine (PB.out _).mono ?_); rintro e w3 ⟨rfl, rfl⟩)
    | fail)
  refine bodyPost_ret (res_spell rfl rfl (Row.made _ _ _)) rfl ?_
  exact ⟨rfl, below_alloc _ _⟩

/-- The question that four integers determine. -/
def askI (a b c d : Int) : Qn := ⟨pk a 3, pk b 8, pk c 100, pk d 100⟩
theorem load_qn {w : World} {g : Nat} {t : TypeId} {a b c d : Value} (h : Row w g t #[a, b, c, d]) : (loadVar 37 ⟨g, 0, none⟩).run Try.prog w = .ok (.agg #[a, b, c, d]) w := by
  obtain ⟨k0, k1, k2, k3⟩ := box4 h
  simp [loadVar, go_sem, k0, k1, k2, k3]
theorem res_qn {fn : Func} {p : Tmp} {tmps : Array Value} {w : World} {g : Nat} {t : TypeId} {a b c d : Value} (h : fn.results = #[.cell p 37]) (hp : tmps.getD p undef = .pointer (some ⟨g, 0, none⟩)) (hr : Row w g t #[a, b, c, d]) : (results fn tmps).run Try.prog w = .ok (.agg #[a, b, c, d]) w := by
  have hl := load_qn hr
  have ha := asAddr_ptr (w := w) hp
  simp only [results, h]
  simp [Sem.run_bind, Result.andThen, ha, hl, -Array.getD_eq_getD_getElem?]
set_option maxRecDepth 100000 in
set_option maxHeartbeats 8000000 in
theorem ask_ref (a b c d : Int) (ha : In64 a) (hb : In64 b) (hc : In64 c) (hd : In64 d) (w : World) :
    Calls Try.prog 11 #[.agg #[.int .i64 a, .int .i64 b, .int .i64 c, .int .i64 d]] w fun e w' => e = .returned (.agg (qnC (askI a b c d))) ∧ Below w.heap.size w w' := by
  have pa := fun (W : World) => rpick_any a 3 ha.1 ha.2 (by omega) (by omega) W
  have pb := fun (W : World) => rpick_any b 8 hb.1 hb.2 (by omega) (by omega) W
  have pc := fun (W : World) => rpick_any c 100 hc.1 hc.2 (by omega) (by omega) W
  have pd := fun (W : World) => rpick_any d 100 hd.1 hd.2 (by omega) (by omega) W
  unfold askI qnC
  dsimp only
  generalize pk a 3 = x at *
  generalize pk b 8 = y at *
  generalize pk c 100 = z at *
  generalize pk d 100 = u at *
  obtain ⟨W1, hW1⟩ : ∃ W1, W1 = (w.alloc (.cells #[.int .i64 a, .int .i64 b, .int .i64 c, .int .i64 d] 26)).alloc (.cells #[.int .i64 0, .int .i64 0, .int .i64 0, .int .i64 0] 37) := ⟨_, rfl⟩
  have hb1 : Below w.heap.size w W1 := by rw [hW1]; exact keep_alloc (below_alloc _ _) _
  have r1 : Row W1 w.heap.size 26 #[.int .i64 a, .int .i64 b, .int .i64 c, .int .i64 d] := by rw [hW1]; exact (Row.made w _ _).later _
  have r2 : Row W1 (w.heap.size + 1) 37 #[.int .i64 0, .int .i64 0, .int .i64 0, .int .i64 0] := by rw [hW1]; exact Row.made_at _ _ _ (by simp)
  obtain ⟨k0, k1, k2, k3⟩ := box4 r1
  obtain ⟨m0, m1, m2, m3⟩ := box4 r2
  have f0 := r2.free 0; have f1 := r2.free 1; have f2 := r2.free 2; have f3 := r2.free 3
  have PA := Lib.hid pa; have PB := Lib.hid pb; have PC := Lib.hid pc; have PD := Lib.hid pd; have HB := Lib.hid hb1; have R2 := Lib.hid r2
  clear pa pb pc pd ha hb hc hd hb1 r1 r2
  go_enter Try.func11, Try.ntmps11
  go_upto_region 1 with (fail)
  rw [← hW1]
  clear hW1
  refine wp_region_still_tail 13 (by kernel_rfl) (by kernel_rfl) ?_
  simp only [List.take_succ_cons, List.take_zero, List.drop_succ_cons, List.drop_zero]
  still_step; still_step; still_call (PA.out _)
  still_step; still_step; still_call (PB.out _)
  still_step; still_step; still_call (PC.out _)
  still_step; still_step; still_call (PD.out _)
  still_step
  try refine wpStill_nil ?_
  change wpList _ _ _ _ _ W1.drew
  obtain ⟨W2, hW2⟩ : ∃ W2, W2 = W1.drew := ⟨_, rfl⟩
  have b2 : Below W1.heap.size W1 W2 := by rw [hW2]; exact (Below.refl _ _).drew
  have r2 := R2.out.step b2
  rw [← hW2]
  clear k0 k1 k2 k3 m0 m1 m2 m3 f0 f1 f2 f3 hW2
  obtain ⟨m0, m1, m2, m3⟩ := box4 r2
  have f0 := r2.free 0; have f1 := r2.free 1; have f2 := r2.free 2; have f3 := r2.free 3
  have RR := Lib.hid r2; have BB := Lib.hid (below_step HB.out b2)
  clear r2 b2
  go_wp2
  refine bodyPost_ret (res_qn rfl rfl ((((RR.out.stored 0 _).stored 1 _).stored 2 _).stored 3 _)) rfl ?_
  exact ⟨rfl, (((BB.out.setCell (p := ⟨w.heap.size + 1, 0, none⟩) (Nat.le_succ _) _).setCell (p := ⟨w.heap.size + 1, 1, none⟩) (Nat.le_succ _) _).setCell (p := ⟨w.heap.size + 1, 2, none⟩) (Nat.le_succ _) _).setCell (p := ⟨w.heap.size + 1, 3, none⟩) (Nat.le_succ _) _⟩
end Go.Proofs.Ytiglkecmamnphaa
