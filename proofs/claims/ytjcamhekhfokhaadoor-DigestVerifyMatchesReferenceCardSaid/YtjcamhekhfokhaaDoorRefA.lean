/- append of one word to a row of words that the call owns, in a region that draws: the old row stays readable. And the reference's table of constants. -/
import Derived.Test.YtjcamhekhfokhaaDoorRefE
namespace Go.Proofs.YtjcamhekhfokhaaDoor
open Go.RowKit

theorem word_info : (Tryd.prog.info? 48).map (fun i => (i.zero, i.size, i.bytes)) = some (some (.int .u32 0), 1, 4) := by kernel_rfl
/-- The words of a list, as values. -/
def wV (l : List Nat) : List Value := l.map fun x : Nat => Value.int .u32 (x : Int)
theorem wV_len (l : List Nat) : (wV l).length = l.length := by simp [wV]
theorem wV_add (l : List Nat) (x : Nat) : wV (l ++ [x]) = wV l ++ [.int .u32 (x : Int)] := by simp [wV]
theorem wV_at (l : List Nat) (i : Nat) (h : i < l.length) : (wV l)[i]? = some (.int .u32 ((l.getD i 0 : Nat) : Int)) := by
  rw [wV, List.getElem?_map, List.getElem?_eq_getElem h, List.getD_eq_getElem?_getD, List.getElem?_eq_getElem h]; rfl

theorem add_head (g j : Nat) : (⟨g, 0, none⟩ : Addr).add j = ⟨g, j, none⟩ := by unfold Addr.add; split <;> simp_all
theorem run_append_word (w : World) (base : Nat) (ty : TypeId) (v : Value) (n : Nat) (xs : List Value) (hown : w.ownsRow base 48 1 v n xs) (k : Nat) (x : Int)
    (hk : Row w k 48 #[.int .u32 x]) (hn : n ≤ 1000) (hbase : base ≤ w.heap.size) :
    ∃ g cap w', (Builtin.append_ #[49, 49] ty #[v, .slice (some ⟨k, 0, none⟩) 1 1]).run Tryd.prog w = .ok (.slice (some ⟨g, 0, none⟩) (n + 1) cap) w' ∧
      w'.ownsRow base 48 1 (.slice (some ⟨g, 0, none⟩) (n + 1) cap) (n + 1) (xs ++ [.int .u32 x]) ∧ w.grownBy w' v.ownBlock ∧
      (∀ g0 c0, v = .slice (some ⟨g0, 0, none⟩) n c0 → ∀ q u, xs[q]? = some u → w'.cell? ⟨g0, q, none⟩ = some u) := by
  obtain ⟨i0, hi, hz0, hz1, hz2⟩ := info_parts word_info
  have hnews : ∀ (j : Nat) u, ([.int .u32 x] : List Value)[j]? = some u → w.cell? ((⟨k, 0, none⟩ : Addr).add j) = some u := by
    intro j u hj
    match j, hj with
    | 0, hj =>
      cases hj
      rw [add_head]
      exact hk.at rfl
    | j + 1, hj => simp at hj
  have h1 : ∀ u ∈ ([.int .u32 x] : List Value), u.oneCell' = true := by simp [Value.oneCell']
  have h63 : n + 1 ≤ maxLen := by unfold maxLen; omega
  have hb : (n + 1) * 4 ≤ 140737488355328 := by omega
  obtain ⟨g, cap, w', hr, h2, h3, h4, h5⟩ := run_append_lies (P := Tryd.prog) w 49 ty base 48 i0 (.int .u32 0) 1 4 Tryd.underlying49 hi hz0 hz1 hz2 rfl (by decide) v n xs hown ⟨k, 0, none⟩ 1 1 [.int .u32 x] rfl hnews h1 (by decide) h63 hb hbase _ rfl
  refine ⟨g, cap, w', hr, h2, h3, ?_⟩
  rintro g0 c0 rfl q u hq
  have hql : q < n := by
    have := hown.1
    rcases Nat.lt_or_ge q xs.length with h | h
    · omega
    · rw [List.getElem?_eq_none h] at hq; cases hq
  by_cases hg : g0 = g
  · subst hg
    rw [h2.cellAt q (by omega), List.getElem?_append_left (by rcases Nat.lt_or_ge q xs.length with h | h; exact h; rw [List.getElem?_eq_none h] at hq; cases hq), hq]
  · have hold : w.cell? ⟨g0, q, none⟩ = some u := by rw [hown.cellAt q (by omega), hq]
    have hlt := (hown.lt g0 rfl).2
    rcases hown.2 with ⟨hh, _⟩ | ⟨g1, cap1, cur, hv, hbg, hgc, hnc, hcm, hcs, htake⟩
    · cases hh
    · simp only [Value.slice.injEq, Option.some.injEq, Addr.mk.injEq, and_true, true_and] at hv
      obtain ⟨rfl, rfl⟩ := hv
      by_cases hroom : n + 1 ≤ c0
      · have hfit : n * i0.size + ([.int .u32 x] : List Value).length ≤ cur.size := by rw [hz1, hcs]; simp; omega
        have hr2 := run_append_room (P := Tryd.prog) w 49 ty 48 i0 Tryd.underlying49 hi g0 n c0 cur hgc ⟨k, 0, none⟩ 1 1 [.int .u32 x] (by rw [hz1]; rfl) hnews h1 hroom hfit
        rw [hr2] at hr
        injection hr with hr3 hr4
        simp only [Value.slice.injEq, Option.some.injEq, Addr.mk.injEq, and_true, true_and] at hr3
        exact absurd hr3.1 hg
      · have holds : ∀ j u, xs[j]? = some u → w.cell? ((⟨g0, 0, none⟩ : Addr).add j) = some u := hown.cells (g := g0) rfl
        have hr2 := run_append_grow (P := Tryd.prog) w 49 ty 48 i0 (.int .u32 0) Tryd.underlying49 hi hz0 ⟨g0, 0, none⟩ n c0 xs (by rw [hz1]; exact hown.1) holds ⟨k, 0, none⟩ 1 1 [.int .u32 x] (by rw [hz1]; rfl) hnews (by omega) (by omega) (growslice_fits (by omega) (by rw [hz2]; omega))
        rw [hr2] at hr
        injection hr with hr3 hr4
        rw [← hr4]
        exact (World.cell?_of_block (heap_alloc_old _ _ _ hlt)).trans hold

theorem step_append_word {w : World} {ops : Array Oper} {o : Oper} {a : Act} {K : Act → World → Prop} {Q : Exit → Act → World → Prop} {E : Prop} (hgd : o.guard = none) (s x : Operand)
    (ho : o.op = .call { callee := .builtin .append, args := #[s, x], argTypes := #[49, 49] })
    (base : Nat) (v : Value) (n : Nat) (xs : List Value) (hs : a.eval s = v) (hown : w.ownsRow base 48 1 v n xs) (k : Nat) (y : Int)
    (hx : a.eval x = .slice (some ⟨k, 0, none⟩) 1 1) (hk : Row w k 48 #[.int .u32 y]) (hn : n ≤ 1000) (hbase : base ≤ w.heap.size)
    (h : ∀ g cap w', w'.ownsRow base 48 1 (.slice (some ⟨g, 0, none⟩) (n + 1) cap) (n + 1) (xs ++ [.int .u32 y]) → w.grownBy w' v.ownBlock →
      (∀ g0 c0, v = .slice (some ⟨g0, 0, none⟩) n c0 → ∀ q u, xs[q]? = some u → w'.cell? ⟨g0, q, none⟩ = some u) → K (a.put o.dst (.slice (some ⟨g, 0, none⟩) (n + 1) cap)) w') :
    if Region.wanted o (yielded ops a.tmps) = true then Oper.wp Tryd.prog o a w K Q else E := by
  have hw : Region.wanted o (yielded ops a.tmps) = true := by simp [Region.wanted, hgd]
  rw [if_pos hw]
  obtain ⟨g, cap, w', hr, h2, h3, h4⟩ := run_append_word w base o.type v n xs hown k y hk hn hbase
  unfold Oper.wp execOp
  simp only [ho, resolve, invoke, builtin, Sem.run_bind, Sem.run_pure, Result.andThen_ok, List.map_toArray, List.map_cons, List.map_nil, hs, hx, hr]
  exact h g cap w' h2 h3 h4

set_option maxRecDepth 100000 in
set_option maxHeartbeats 2000000 in
theorem consts_any (w : World) : Calls Tryd.prog 58 #[] w fun e w' => e = .returned (.slice (some ⟨w.heap.size, 0, none⟩) 64 64) ∧ w' = w.alloc (.cells (wA kTab) 48) := by
  go_enter Tryd.func58, Tryd.ntmps58
  go_wp2
  go_ret
  exact ⟨rfl, rfl⟩
end Go.Proofs.YtjcamhekhfokhaaDoor
