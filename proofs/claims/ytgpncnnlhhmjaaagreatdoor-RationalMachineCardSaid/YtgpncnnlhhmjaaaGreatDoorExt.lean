/- extend: slices.Grow, slices.Concat. -/
import Derived.Test.YtgpncnnlhhmjaaaGreatDoorCmp
import Derived.Lib.AppendZeros
import Derived.LoopN
import Derived.Laws.OwnMore
namespace Go.Proofs.YtgpncnnlhhmjaaaGreatDoor
open Go.RowKit

theorem run_append_none (w : World) (base : Nat) (t ty e : TypeId) (i : TypeInfo) (size c : Nat) (ht : Tryz.prog.underlying t = some (.slice e)) (hi : Tryz.prog.info? e = some i)
    (v : Value) (n : Nat) (xs : List Value) (hown : w.ownsRow base e size v n xs) :
    (Builtin.append_ #[t, t] ty #[v, .slice none 0 c]).run Tryz.prog w = .ok v w := by
  rcases hown.2 with ⟨rfl, rfl⟩ | ⟨g, cap, cur, rfl, _, _, hnc, _⟩
  · simp [Builtin.append_, run_underlying ht, sizeOf, typeInfo, hi, Builtin.lenOf, Builtin.firstCells]
  · simp [Builtin.append_, run_underlying ht, sizeOf, typeInfo, hi, Builtin.lenOf, Builtin.firstCells, hnc, storeCells]

/-- append of a slice of integers to a row of the call's own. -/
theorem wpList_append_ints {w : World} {ops : Array Oper} {rest : List Oper} {o : Oper} {a : Act} {Q : Exit → Act → World → Prop} (hgd : o.guard = none) (s x : Operand) (T : TypeId) (hT : Tryz.prog.underlying T = some (.slice 3))
    (ho : o.op = .call { callee := .builtin .append, args := #[s, x], argTypes := #[T, T] })
    (base : Nat) (v : Value) (n : Nat) (l : List Int) (hs : a.eval s = v) (hown : w.ownsRow base 3 1 v n (iV l))
    (A : Option Addr) (m c : Nat) (news : List Int) (hx : a.eval x = .slice A m c) (hm : m = news.length) (hN : Ints w w.heap.size A news) (hnm : n + m ≤ 2000) (hbase : base ≤ w.heap.size)
    (h : ∀ v' w', w'.ownsRow base 3 1 v' (n + m) (iV (l ++ news)) → w.grownBy w' v.ownBlock → wpList Tryz.prog ops Q rest (a.put o.dst v') w') : wpList Tryz.prog ops Q (o :: rest) a w := by
  obtain ⟨i0, hi0, hz0, hz1, hz2⟩ := info_parts int_info
  match A, hx, hN with
  | none, hx, hN =>
    obtain rfl : news = [] := by
      rcases hN with h | ⟨b, o, h, _⟩
      · exact h
      · cases h
    obtain rfl : m = 0 := hm
    refine wpList_plain hgd fun K hK => ?_
    have hr := run_append_none w base T o.type 3 i0 1 c hT hi0 v n _ hown
    unfold Oper.wp execOp
    simp only [ho, resolve, invoke, builtin, Sem.run_bind, Sem.run_pure, Result.andThen_ok, List.map_toArray, List.map_cons, List.map_nil, hs, hx, hr]
    exact hK _ _ (h v w (by simpa using hown) ⟨rfl, rfl, rfl, Nat.le_refl _, fun _ _ _ => rfl⟩)
  | some ad, hx, hN =>
    refine wpList_append_own _ hgd s x T ho base 3 i0 _ 1 8 hT hi0 hz0 hz1 hz2 (by rfl) (by decide) v n _ hs hown ad m c (iV news) hx (by rw [iV_len, Nat.mul_one]; exact hm.symm) ?_ (iV_one _) (by unfold maxLen; omega) (by omega) hbase ?_
    · intro j u hj
      rcases Nat.eq_zero_or_pos news.length with h0 | h0
      · have : news = [] := List.eq_nil_of_length_eq_zero h0
        rw [this] at hj; simp [iV] at hj
      · obtain ⟨ad', e, hc⟩ := ints_src hN (by rw [iV_len]; exact h0)
        cases e
        exact hc j u hj
    · intro v' w' h1 h2 _
      exact h v' w' (by rw [show iV (l ++ news) = iV l ++ iV news by simp [iV]]; exact h1) h2

set_option maxRecDepth 100000 in
set_option maxHeartbeats 4000000 in
theorem grow_any (k : Nat) (h0 : 0 < k) (hm : k ≤ 1000) (w : World) :
    Calls Tryz.prog 161 #[.slice none 0 0, .int .i64 (k : Int)] w fun e w' => ∃ g c, e = .returned (.slice (some ⟨g, 0, none⟩) 0 c) ∧ w'.ownsRow w.heap.size 3 1 (.slice (some ⟨g, 0, none⟩) 0 c) 0 [] ∧ Below w.heap.size w w' := by
  obtain ⟨i0, hi0, hz0, hz1, hz2⟩ := info_parts int_info
  have hr := fun ty => Lib.run_append_nil_zeros (P := Tryz.prog) w 89 3 ty 3 i0 (.int .i64 0) .i64 .i64 Tryz.underlying89 Tryz.underlying3 hi0 hz0 k h0 (by rw [hz1]; decide) (by omega) (by rw [hz2]; omega)
  have hge := grownCap_ge w k 0 3
  have hle := grownCap_le_maxLen w k 0 3 (by unfold maxLen; omega)
  obtain ⟨C, hC⟩ : ∃ C, C = grownCap w k 0 3 := ⟨_, rfl⟩
  rw [← hC] at hr hge hle
  obtain ⟨Z, hZ⟩ : ∃ Z, Z = Builtin.zeroCells (Value.int .i64 0).cells k ++ Builtin.zeroCells (Value.int .i64 0).cells (C - k) := ⟨_, rfl⟩
  have hZs : Z.size = C := by rw [hZ, Array.size_append, size_zeroCells, size_zeroCells, show (Value.int IntKind.i64 0).cells.size = 1 from rfl]; omega
  rw [← hZ] at hr
  have hown : (w.drew.alloc (.cells Z 3)).ownsRow w.heap.size 3 1 (.slice (some ⟨w.heap.size, 0, none⟩) 0 C) 0 [] :=
    ⟨rfl, .inr ⟨w.heap.size, C, Z, rfl, Nat.le_refl _, heap_alloc_new w.drew _, Nat.zero_le _, hle, by rw [hZs, Nat.mul_one], by simp⟩⟩
  have HO := Lib.hid hown
  clear hC hZ hZs hown hle
  have k0 : (0 : Int) < (k : Int) := by omega
  go_enter Tryz.func161, Tryz.ntmps161
  go_wp2_with (first | (at_builtin; refine Lib.wpList_append_run _ rfl _ _ _ _ rfl _ _ rfl rfl _ _ (hr _) ?_) | fail)
  go_ret
  exact ⟨_, C, rfl, HO.out, ((Below.refl _ w).drew).alloc (Nat.le_refl _) _⟩

set_option maxRecDepth 100000 in
set_option maxHeartbeats 4000000 in
theorem concat_any (g h : Nat) (A1 : Option Addr) (L1 c1 : Nat) (l1 : List Int) (x : Int) (m1 : L1 ≤ 900) (hL : L1 = l1.length) (w : World)
    (hg : Row w g 89 #[.slice A1 L1 c1, .slice (some ⟨h, 0, none⟩) 1 1]) (h1 : Ints w w.heap.size A1 l1) (hh : IRow w h [x]) :
    Calls Tryz.prog 147 #[.slice (some ⟨g, 0, none⟩) 2 2] w fun e w' => ∃ b c, e = .returned (.slice (some ⟨b, 0, none⟩) (L1 + 1) c) ∧ w'.ownsRow w.heap.size 3 1 (.slice (some ⟨b, 0, none⟩) (L1 + 1) c) (L1 + 1) (iV (l1 ++ [x])) ∧ Below w.heap.size w w' := by
  have r0 := hg.at (i := 0) (v := .slice A1 L1 c1) rfl
  have r1 := hg.at (i := 1) (v := .slice (some ⟨h, 0, none⟩) 1 1) rfl
  have lg := hg.inside
  have lh := hh.lies
  have H1 := Lib.hid h1; have HH := Lib.hid hh; have HL := Lib.hid hL
  clear hg h1 hh hL
  obtain ⟨k, hk⟩ : ∃ k, k = L1 + 1 := ⟨_, rfl⟩
  have cG := grow_any k (by omega) (by omega) w
  have ek : (L1 : Int) + 1 = (k : Int) := by omega
  have L0 : (0 : Int) ≤ (L1 : Int) := by omega
  have k0 : (0 : Int) ≤ (k : Int) := by omega
  have HK := Lib.hid hk
  clear hk
  go_enter Tryz.func147, Tryz.ntmps147
  go_wp2
  refine wp_loop_rounds 3 ?_
  rw [rounds_succ]
  go_wp2
  rw [rounds_succ]
  go_wp2
  rw [rounds_succ]
  go_wp2_with (first | (go_at_call 161; (refine cG.mono ?_); rintro e w1 ⟨b, c, rfl, hown, hb⟩) | fail)
  have HO := Lib.hid hown
  have s0 := (hb.cell (p := ⟨g, 0, none⟩) lg).trans r0
  have s1 := (hb.cell (p := ⟨g, 1, none⟩) lg).trans r1
  clear hown r0 r1
  refine wp_loop_rounds 3 ?_
  rw [rounds_succ]
  go_wp2_with (first | (at_builtin; refine wpList_append_ints rfl _ _ 89 Tryz.underlying89 rfl w.heap.size _ 0 [] rfl HO.out A1 L1 c1 l1 rfl HL.out ((H1.out.below hb).more hb.size) (by omega) hb.size ?_; intro v2 w2 hown2 hgrow2) | fail)
  have hb2 := keep_grown hb hgrow2 HO.out
  have hlb := (HO.out.lt b rfl).1
  have HO2 : Hid (w2.ownsRow w.heap.size 3 1 v2 L1 (iV l1)) := by
    have h := hown2
    rw [Nat.zero_add] at h
    exact h
  have HB2 := Lib.hid hb2
  have t1 := (hb2.cell (p := ⟨g, 1, none⟩) lg).trans ((hb.cell (p := ⟨g, 1, none⟩) lg).symm.trans s1)
  have hx2 : IRow w2 h [x] := HH.out.under hb2 lh
  have HX2 := Lib.hid hx2
  clear hown2 hgrow2 hb2 s0 s1 hx2 hlb
  rw [rounds_succ]
  go_wp2_with (first | (at_builtin; refine wpList_append_ints rfl _ _ 89 Tryz.underlying89 rfl w.heap.size _ L1 l1 rfl HO2.out (some ⟨h, 0, none⟩) 1 1 [x] rfl rfl (ints_row HX2.out HX2.out.lies 0) (by omega) HB2.out.size ?_; intro v3 w3 hown3 hgrow3) | fail)
  have hb3 := keep_grown HB2.out hgrow3 HO2.out
  obtain ⟨b3, c3, rfl, _, _⟩ := own_some hown3 (by omega)
  have HO3 := Lib.hid hown3
  have HB3 := Lib.hid hb3
  clear hown3 hgrow3 hb3
  rw [rounds_succ]
  go_wp2
  go_ret
  exact ⟨b3, c3, rfl, HO3.out, HB3.out⟩

/-- A number with one more group. -/
theorem grp_ext (n x : Nat) (hx : x < 10000) (h : ¬ (n = 0 ∧ x = 0)) : grp (n * 10000 + x) = grp n ++ [(x : Int)] := grp_snoc n x hx (by omega)

set_option maxRecDepth 100000 in
set_option maxHeartbeats 4000000 in
theorem extend_any (A1 : Option Addr) (L1 c1 n1 x : Nat) (m1 : L1 ≤ 900) (hx : x < 10000) (w : World) (h1 : Nt w w.heap.size A1 L1 c1 n1) :
    Calls Tryz.prog 127 #[.slice A1 L1 c1, .int .i64 (x : Int)] w fun e w' => ∃ A L c, e = .returned (.slice A L c) ∧ Nt w' w'.heap.size A L c (n1 * 10000 + x) ∧ Below w.heap.size w w' := by
  have H1 := Lib.hid h1
  have hL0 : L1 = 0 ↔ n1 = 0 := by
    rw [h1.len, ← grp_nil (n := n1)]; exact List.length_eq_zero_iff
  clear h1
  by_cases h0 : n1 = 0 ∧ x = 0
  · obtain ⟨rfl, rfl⟩ := h0
    obtain rfl : L1 = 0 := hL0.2 rfl
    go_enter Tryz.func127, Tryz.ntmps127
    go_wp2
    go_ret
    exact ⟨none, 0, 0, rfl, nt_zero _ _, Below.refl _ _⟩
  · have hg := grp_ext n1 x hx h0
    have HG := Lib.hid hg
    have cC := concat_any (w.heap.size + 1) w.heap.size A1 L1 c1 (grp n1) (x : Int) m1 H1.out.len ((w.alloc (.cells #[.int .i64 (x : Int)] 3)).alloc (.cells #[.slice A1 L1 c1, .slice (some ⟨w.heap.size, 0, none⟩) 1 1] 89))
      (Row.made_at _ _ _ (by simp)) (((H1.out.ints.below (below_alloc w _)).below ((below_alloc _ _).mono (by simp))).more (by simp; omega)) (Row.later (Row.made w 3 #[.int .i64 (x : Int)]) _)
    have hb0 : Below w.heap.size w ((w.alloc (.cells #[.int .i64 (x : Int)] 3)).alloc (.cells #[.slice A1 L1 c1, .slice (some ⟨w.heap.size, 0, none⟩) 1 1] 89)) := (below_alloc w _).alloc (by simp) _
    have HB0 := Lib.hid hb0
    have hfin : ∀ (w1 : World) (b c : Nat), w1.ownsRow ((w.alloc (.cells #[.int .i64 (x : Int)] 3)).alloc (.cells #[.slice A1 L1 c1, .slice (some ⟨w.heap.size, 0, none⟩) 1 1] 89)).heap.size 3 1 (.slice (some ⟨b, 0, none⟩) (L1 + 1) c) (L1 + 1) (iV (grp n1 ++ [(x : Int)])) → Nt w1 w1.heap.size (some ⟨b, 0, none⟩) (L1 + 1) c (n1 * 10000 + x) := by
      intro w1 b c hown
      have hl : L1 + 1 = (grp n1 ++ [(x : Int)]).length := by rw [List.length_append, ← H1.out.len]; rfl
      obtain ⟨A, c', e, hi, h2, h3⟩ := own_ints _ hl hown
      cases e
      exact ⟨by rw [HG.out, hl], h2, h3, by rw [HG.out]; exact hi⟩
    have HF := Lib.hid hfin
    have hx0 : L1 = 0 → x ≠ 0 := fun hz e => h0 ⟨hL0.1 hz, e⟩
    clear hg hb0 hL0 hfin h0
    by_cases hz : L1 = 0
    · have hx1 := hx0 hz
      have hx2 : ((x : Int) == 0) = false := by rw [beq_eq_false_iff_ne]; omega
      subst hz
      clear hx0
      go_enter Tryz.func127, Tryz.ntmps127
      go_wp2_with (first | (go_at_call 147; (refine cC.mono ?_); rintro e w1 ⟨b, c, rfl, hown, hb⟩) | fail)
      go_ret
      exact ⟨_, _, c, rfl, HF.out w1 b c hown, HB0.out.trans (hb.mono HB0.out.size)⟩
    · have hx2 : ((L1 : Int) == 0) = false := by rw [beq_eq_false_iff_ne]; omega
      clear hx0
      go_enter Tryz.func127, Tryz.ntmps127
      go_wp2_with (first | (go_at_call 147; (refine cC.mono ?_); rintro e w1 ⟨b, c, rfl, hown, hb⟩) | fail)
      go_ret
      exact ⟨_, _, c, rfl, HF.out w1 b c hown, HB0.out.trans (hb.mono HB0.out.size)⟩
theorem extend_at (A1 : Option Addr) (L1 c1 n1 x N : Nat) (X : Int) (hX : X = (x : Int)) (hN : N = n1 * 10000 + x) (m1 : L1 ≤ 900) (hx : x < 10000) (w : World) (h1 : Nt w w.heap.size A1 L1 c1 n1) :
    Calls Tryz.prog 127 #[.slice A1 L1 c1, .int .i64 X] w fun e w' => ∃ A L c, e = .returned (.slice A L c) ∧ Nt w' w'.heap.size A L c N ∧ Below w.heap.size w w' := by
  subst hX hN
  exact extend_any A1 L1 c1 n1 x m1 hx w h1
end Go.Proofs.YtgpncnnlhhmjaaaGreatDoor
