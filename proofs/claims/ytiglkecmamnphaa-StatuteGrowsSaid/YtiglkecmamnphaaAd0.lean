/- add: also of nothing. -/
import Derived.Test.YtiglkecmamnphaaAp
namespace Go.Proofs.Ytiglkecmamnphaa
open Go.RowKit Go.Sort Go.Lib

theorem run_append_zero (w : World) (base : Nat) (t ty e : TypeId) (i : TypeInfo) (size c : Nat) (A : Option Addr) (ht : Try.prog.underlying t = some (.slice e)) (hi : Try.prog.info? e = some i)
    (v : Value) (n : Nat) (xs : List Value) (hown : w.ownsRow base e size v n xs) :
    (Builtin.append_ #[t, t] ty #[v, .slice A 0 c]).run Try.prog w = .ok v w := by
  rcases hown.2 with ⟨rfl, rfl⟩ | ⟨g, cap, cur, rfl, _, _, hnc, _⟩
  · cases A <;> simp [Builtin.append_, run_underlying ht, sizeOf, typeInfo, hi, Builtin.lenOf, Builtin.firstCells, loadCells, loadCellsFrom]
  · cases A <;> simp [Builtin.append_, run_underlying ht, sizeOf, typeInfo, hi, Builtin.lenOf, Builtin.firstCells, hnc, storeCells, loadCells, loadCellsFrom]

theorem wpList_append_run8 (w : World) {ops : Array Oper} {rest : List Oper} {o : Oper} {a : Act} {Q : Exit → Act → World → Prop} (hgd : o.guard = none) (s x : Operand) (t : TypeId)
    (ho : o.op = .call { callee := .builtin .append, args := #[s, x], argTypes := #[t, t] }) (v u : Value) (hs : a.eval s = v) (hx : a.eval x = u) {v' : Value} {w' : World}
    (hr : (Builtin.append_ #[t, t] o.type #[v, u]).run Try.prog w = .ok v' w') (h : wpList Try.prog ops Q rest (a.put o.dst v') w') : wpList Try.prog ops Q (o :: rest) a w := by
  refine wpList_plain hgd fun K hK => ?_
  unfold Oper.wp execOp
  simp only [ho, resolve, invoke, builtin, Sem.run_bind, Sem.run_pure, Result.andThen_ok, List.map_toArray, List.map_cons, List.map_nil, hs, hx, hr]
  exact hK _ _ h

set_option maxRecDepth 100000 in
set_option maxHeartbeats 4000000 in
theorem add_zero (base : Nat) (v : Value) (l : List Int) (XA : Option Addr) (xc : Nat) (w : World) (hown : w.ownsRow base 3 1 v l.length (iC l)) (hu : Up l) (hlen : l.length ≤ 1000) :
    Calls Try.prog 34 #[v, .slice XA 0 xc] w fun e w' => ∃ v', e = .returned v' ∧ w'.ownsRow base 3 1 v' l.length (iC l) ∧ w.grownBy w' v.ownBlock ∧ (∀ g, v'.ownBlock = some g → v.ownBlock = some g ∨ w.heap.size ≤ g) := by
  obtain ⟨i0, hi0, hz0, hz1, hz2⟩ := info_parts num_info
  have hr := fun ty => run_append_zero w base 49 ty 3 i0 1 xc XA Try.underlying49 hi0 v l.length (iC l) hown
  have hsame : w.grownBy w v.ownBlock := ⟨rfl, rfl, rfl, Nat.le_refl _, fun _ _ _ => rfl⟩
  cases l with
  | nil =>
    have hv : ∃ A c, v = .slice A 0 c := by
      rcases hown.2 with ⟨rfl, _⟩ | ⟨g, cap, cur, rfl, _⟩
      · exact ⟨_, _, rfl⟩
      · exact ⟨_, _, rfl⟩
    obtain ⟨A, c, rfl⟩ := hv
    have cS := Try.slices_Sort_int_none A c w
    have cC := Try.slices_Compact_int_empty A c w
    have HR := Lib.hid hr; have HO := Lib.hid hown; have CS := Lib.hid cS; have CC := Lib.hid cC; have HS := Lib.hid hsame
    clear hr hown cS cC hsame hi0 hz0 hz1 hz2
    go_enter Try.func34, Try.ntmps34
    go_upto_region 2 with (at_builtin; refine wpList_append_run8 _ rfl _ _ 49 rfl _ _ rfl rfl (HR.out _) ?_)
    go_upto_region 3 with (go_at_call 50; (with_reducible refine CS.out.mono ?_); rintro e w2 ⟨rfl, rfl⟩)
    go_wp2_with (go_at_call 51; (with_reducible refine CC.out.mono ?_); rintro e w3 ⟨rfl, rfl⟩)
    go_ret
    exact ⟨_, rfl, HO.out, HS.out, fun g h => .inl h⟩
  | cons x0 l0 =>
    obtain ⟨g, cap, cur, rfl, hbg, hg, hnc, hcm, hcs, htake⟩ : ∃ g cap cur, v = .slice (some ⟨g, 0, none⟩) (x0 :: l0).length cap ∧ base ≤ g ∧ w.heap[g]? = some (.cells cur 3 (0, 0)) ∧ (x0 :: l0).length ≤ cap ∧ cap ≤ maxLen ∧ cur.size = cap * 1 ∧ cur.toList.take ((x0 :: l0).length * 1) = iC (x0 :: l0) := by
      rcases hown.2 with ⟨_, h⟩ | ⟨g, cap, cur, rfl, h1, h2, h3, h4, h5, h6⟩
      · cases h
      · exact ⟨g, cap, cur, rfl, h1, h2, h3, h4, h5, h6⟩
    generalize x0 :: l0 = S at *
    have hcur : cur.size = cap := by rw [hcs, Nat.mul_one]
    have hlt : g < w.heap.size := (Array.getElem?_eq_some_iff.1 hg).1
    rw [Nat.mul_one] at htake
    have hH : Holds (Value.int .i64) w g 0 S.toArray := by
      refine holds_of_blockI hg ?_
      exact htake
    have hsrt : (S.mergeSort fun x y => decide (x ≤ y)) = S := List.mergeSort_of_pairwise (hu.imp fun {a b} hab => decide_eq_true (Int.le_of_lt hab))
    have cS := Try.slices_Sort_int g 0 cap S w hH hlt (by omega)
    rw [hsrt] at cS
    have HU := Lib.hid hu; have HL := Lib.hid hlen
    have HR := Lib.hid hr; have CS := Lib.hid cS; have HG := Lib.hid hg; have HC := Lib.hid hcur; have HNC := Lib.hid hnc; have HCM := Lib.hid hcm; have HBG := Lib.hid hbg
    clear cS hH htake hcs hown hr hg hcur hnc hcm hbg hi0 hz0 hz1 hz2 hsame hsrt hu hlen hlt
    obtain ⟨n, hn⟩ : ∃ n, n = S.length := ⟨_, rfl⟩
    rw [← hn] at HR CS HL HNC ⊢
    have HN := Lib.hid hn
    clear hn
    go_enter Try.func34, Try.ntmps34
    go_upto_region 2 with (at_builtin; refine wpList_append_run8 _ rfl _ _ 49 rfl _ _ rfl rfl (HR.out _) ?_)
    go_upto_region 3 with (go_at_call 50; (with_reducible refine CS.out.mono ?_); rintro e w2 ⟨rfl, n2, os2, hw2⟩; have W2 := Lib.hid hw2; clear hw2)
    have hg2 : w2.heap[g]? = some (.cells (putCells (Value.int .i64) 0 S.toArray cur) 3 (0, 0)) := by rw [W2.out]; exact heap_sortedI _ HG.out
    have ht2 : (putCells (Value.int .i64) 0 S.toArray cur).toList.take S.length = S.map (Value.int .i64) := take_putCellsI cur S (by rw [HC.out, ← HN.out]; exact HNC.out)
    have hH2 : Holds (Value.int .i64) w2 g 0 S.toArray := holds_of_blockI hg2 ht2
    have cC := Try.slices_Compact_int g 0 cap S w2 hH2 (by have := HL.out; have := HN.out; omega) (by rw [← HN.out]; exact HNC.out)
    rw [compact_up HU.out, ← HN.out] at cC
    have CC := Lib.hid cC; have HG2 := Lib.hid hg2
    clear cC hH2 ht2 hg2
    go_wp2_with (go_at_call 51; (with_reducible refine CC.out.mono ?_); rintro e w3 ⟨rfl, q3, hw3⟩; have W3 := Lib.hid hw3; clear hw3)
    go_ret
    have hn := HN.out
    have hW3 := W3.out
    rw [Nat.sub_self, List.replicate_zero, List.append_nil] at hW3
    have hg3 : w3.heap[g]? = some (.cells (putCells (Value.int .i64) 0 S.toArray (putCells (Value.int .i64) 0 S.toArray cur)) 3 (0, 0)) := by
      rw [hW3]
      have := heap_sortedI (n := q3) (os := #[]) S.toArray HG2.out
      rw [grow_empty] at this
      exact this
    have hsz : (putCells (Value.int .i64) 0 S.toArray cur).size = cap := by simp [putCells, HC.out]
    refine ⟨_, rfl, ⟨by simp [hn], .inr ⟨g, cap, _, rfl, HBG.out, hg3, HNC.out, HCM.out, by simp [putCells, HC.out], ?_⟩⟩, ?_, ?_⟩
    · rw [Nat.mul_one, hn]
      exact take_putCellsI _ S (by rw [hsz, ← hn]; exact HNC.out)
    · have k2 : w.grownBy w2 (some g) := by rw [W2.out]; exact grownBy_sortedI _
      have k3 : w2.grownBy w3 (some g) := by
        rw [hW3]
        have := grownBy_sortedI (w := w2) (g := g) (n := q3) (os := #[]) S.toArray
        rw [grow_empty] at this
        exact this
      exact grown_trans k2 k3 fun g2 e => .inl e
    · intro g2 h
      exact .inl h
end Go.Proofs.Ytiglkecmamnphaa
