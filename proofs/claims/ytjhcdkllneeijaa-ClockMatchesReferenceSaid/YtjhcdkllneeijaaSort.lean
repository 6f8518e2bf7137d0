/- slices.SortFunc laid at the changes of spells; cmp.Compare; the sorted changes. -/
import Derived.Shelf.SlSortCmp.WholeK
import Derived.Shelf.SlSortCmp.NoneTotal
import Derived.Shelf.Abstract
import Derived.Deep.LoopGhost
import Derived.Test.YtjhcdkllneeijaaMem
import Derived.Test.YtjhcdkllneeijaaAg
namespace Go.Proofs.Ytjhcdkllneeijaa
open Go.Shelf Go.RowKit
def sortRen : Go.Shelf.Ren := ⟨fun | 6 => 42 | 15 => 49 | 14 => 48 | 28 => 60 | 29 => 61 | 20 => 52 | 21 => 53 | 22 => 54 | 23 => 55 | 24 => 56 | 25 => 57 | 26 => 58 | 27 => 59 | 46 => 62 | 47 => 63 | 48 => 64 | 49 => 65 | 50 => 66 | 57 => 67 | n => n, fun | 22 => 55 | 24 => 58 | 25 => 67 | 3 => 3 | 39 => 73 | 0 => 0 | 53 => 84 | 55 => 86 | 4 => 4 | 46 => 77 | 45 => 76 | 50 => 81 | 5 => 5 | 9 => 9 | 66 => 87 | 70 => 91 | 76 => 93 | 77 => 29 | n => n, fun | n => n⟩
theorem sortLay : Go.Proofs.SlLaysF0.n6 Try.prog sortRen := {
  mixed := by kernel_rfl
  f6 := ⟨Try.f42.name, by decide, Try.func42.trans (congrArg some (by kernel_rfl))⟩
  f14 := ⟨Try.f48.name, by decide, Try.func48.trans (congrArg some (by kernel_rfl))⟩
  f15 := Try.func49.trans (congrArg some (by kernel_rfl))
  f20 := ⟨Try.f52.name, by decide, Try.func52.trans (congrArg some (by kernel_rfl))⟩
  f21 := ⟨Try.f53.name, by decide, Try.func53.trans (congrArg some (by kernel_rfl))⟩
  f22 := ⟨Try.f54.name, by decide, Try.func54.trans (congrArg some (by kernel_rfl))⟩
  f23 := ⟨Try.f55.name, by decide, Try.func55.trans (congrArg some (by kernel_rfl))⟩
  f24 := ⟨Try.f56.name, by decide, Try.func56.trans (congrArg some (by kernel_rfl))⟩
  f25 := ⟨Try.f57.name, by decide, Try.func57.trans (congrArg some (by kernel_rfl))⟩
  f26 := ⟨Try.f58.name, by decide, Try.func58.trans (congrArg some (by kernel_rfl))⟩
  f27 := ⟨Try.f59.name, by decide, Try.func59.trans (congrArg some (by kernel_rfl))⟩
  f28 := Try.func60.trans (congrArg some (by kernel_rfl))
  f29 := Try.func61.trans (congrArg some (by kernel_rfl))
  f46 := ⟨Try.f62.name, by decide, Try.func62.trans (congrArg some (by kernel_rfl))⟩
  f47 := Try.func63.trans (congrArg some (by kernel_rfl))
  f48 := Try.func64.trans (congrArg some (by kernel_rfl))
  f49 := ⟨Try.f65.name, by decide, Try.func65.trans (congrArg some (by kernel_rfl))⟩
  f50 := ⟨Try.f66.name, by decide, Try.func66.trans (congrArg some (by kernel_rfl))⟩
  f57 := ⟨Try.f67.name, by decide, Try.func67.trans (congrArg some (by kernel_rfl))⟩
  t0 := Try.underlying0
  a0 := Try.isAgg0
  z0 := Try.sizeOf0
  v0 := Try.zeroValue0
  t3 := Try.underlying3
  a3 := Try.isAgg3
  z3 := Try.sizeOf3
  v3 := Try.zeroValue3
  t4 := Try.underlying4
  a4 := Try.isAgg4
  z4 := Try.sizeOf4
  v4 := Try.zeroValue4
  t5 := Try.underlying5
  a5 := Try.isAgg5
  z5 := Try.sizeOf5
  v5 := Try.zeroValue5
  t9 := Try.underlying9
  a9 := Try.isAgg9
  z9 := Try.sizeOf9
  v9 := Try.zeroValue9
  t22 := Try.underlying55
  a22 := Try.isAgg55
  z22 := Try.sizeOf55
  v22 := Try.zeroValue55
  t25 := Try.underlying67
  a25 := Try.isAgg67
  z25 := Try.sizeOf67
  v25 := Try.zeroValue67
  t39 := Try.underlying73
  a39 := Try.isAgg73
  z39 := Try.sizeOf73
  v39 := Try.zeroValue73
  t45 := Try.underlying76
  a45 := Try.isAgg76
  z45 := Try.sizeOf76
  v45 := Try.zeroValue76
  t46 := Try.underlying77
  a46 := Try.isAgg77
  z46 := Try.sizeOf77
  v46 := Try.zeroValue77
  t50 := Try.underlying81
  a50 := Try.isAgg81
  z50 := Try.sizeOf81
  v50 := Try.zeroValue81
  t53 := Try.underlying84
  a53 := Try.isAgg84
  z53 := Try.sizeOf84
  v53 := Try.zeroValue84
  t55 := Try.underlying86
  a55 := Try.isAgg86
  z55 := Try.sizeOf86
  v55 := Try.zeroValue86
  t66 := Try.underlying87
  a66 := Try.isAgg87
  z66 := Try.sizeOf87
  v66 := Try.zeroValue87
  t70 := Try.underlying91
  a70 := Try.isAgg91
  z70 := Try.sizeOf91
  v70 := Try.zeroValue91
  t76 := Try.underlying93
  a76 := Try.isAgg93
  z76 := Try.sizeOf93
  v76 := Try.zeroValue93
  t77 := Try.underlying29
  a77 := Try.isAgg29
  z77 := Try.sizeOf29
  v77 := Try.zeroValue29 }

open Go.Lib Go.Sort
/-- A change's two cells. -/
def encC (x : Int × Int) : List Value := [.int .i64 x.1, .int .i64 x.2]
def cmpC (x y : Int × Int) : Int := if x.1 < y.1 then -1 else if y.1 < x.1 then 1 else 0
theorem ltC (x y : Int × Int) : ltOf cmpC x y = decide (x.1 < y.1) := by
  unfold ltOf cmpC
  by_cases h1 : x.1 < y.1
  · simp [h1]
  · by_cases h2 : y.1 < x.1 <;> simp [h1, h2]
theorem swoC : SWO (ltOf cmpC) where
  irrefl x := by rw [ltC]; simp
  trans x y z h1 h2 := by rw [ltC] at *; simp at *; omega
  ntrans x y z h1 h2 := by rw [ltC] at *; simp at *; omega

set_option maxRecDepth 100000 in
theorem isNaN_any (x : Int) (w : World) : Calls Try.prog 50 #[.int .i64 x] w fun e w' => e = .returned (.bool false) ∧ w' = w := by
  go_enter Try.func50, Try.ntmps50
  go_wp2
  go_ret
  exact ⟨by simp, rfl⟩
set_option maxRecDepth 100000 in
theorem compare_any (x y : Int) (w : World) : Calls Try.prog 44 #[.int .i64 x, .int .i64 y] w fun e w' => e = .returned (.int .i64 (if x < y then -1 else if y < x then 1 else 0)) ∧ w' = w := by
  by_cases h1 : x < y
  · rw [if_pos h1]
    go_enter Try.func44, Try.ntmps44
    go_wp2_with (go_at_call 50; refine (isNaN_any _ _).mono ?_; rintro e w' ⟨rfl, rfl⟩)
    go_ret
    exact ⟨rfl, rfl⟩
  · rw [if_neg h1]
    by_cases h2 : y < x
    · rw [if_pos h2]
      go_enter Try.func44, Try.ntmps44
      go_wp2_with (go_at_call 50; refine (isNaN_any _ _).mono ?_; rintro e w' ⟨rfl, rfl⟩)
      go_ret
      exact ⟨rfl, rfl⟩
    · rw [if_neg h2]
      go_enter Try.func44, Try.ntmps44
      go_wp2_with (go_at_call 50; refine (isNaN_any _ _).mono ?_; rintro e w' ⟨rfl, rfl⟩)
      go_ret
      exact ⟨rfl, rfl⟩
set_option maxRecDepth 100000 in
theorem closureC (x y : Int × Int) (W : World) : Calls Try.prog 43 #[.agg #[.int .i64 x.1, .int .i64 x.2], .agg #[.int .i64 y.1, .int .i64 y.2]] W fun e w' => e = .returned (.int .i64 (cmpC x y)) ∧ ∃ q os', w' = grow (W.drewN q) os' := by
  have hcon := fun W' => compare_any x.1 y.1 W'
  unfold cmpC
  generalize (if x.1 < y.1 then (-1 : Int) else if y.1 < x.1 then 1 else 0) = r at hcon ⊢
  go_enter Try.func43, Try.ntmps43
  go_wp2_with (go_at_call 44; refine (hcon _).mono ?_; rintro e w' ⟨rfl, rfl⟩)
  go_ret
  exact ⟨rfl, 0, _, by rw [alloc_eq_grow, alloc_eq_grow, grow_grow]; rfl⟩

theorem below_sorted {B : Nat} {w : World} {blk off n : Nat} {d : Array (Int × Int)} {os : Array Obj} (hB : B ≤ blk) (hw : B ≤ w.heap.size) : RowKit.Below B w (sortWorldK encC 2 w blk off n d os) :=
  ⟨rfl, rfl, rfl, size_sortWorldK_c encC 2 w blk off n d os, fun k hk => by
    unfold sortWorldK putRowK putRow mapBlock grow
    show (Array.modify w.heap blk _ ++ os)[k]? = _
    rw [Array.getElem?_append_left (by rw [Array.size_modify]; omega), Array.getElem?_modify, if_neg (by omega)]⟩

/-- The flat cells of changes. -/
def flatC (l : List (Int × Int)) : List Value := l.flatMap encC
theorem flatC_len (l : List (Int × Int)) : (flatC l).length = l.length * 2 := by
  induction l with
  | nil => rfl
  | cons x l ih => show (encC x ++ flatC l).length = _; rw [List.length_append, ih]; simp [encC]; omega
theorem flatC_app (a b : List (Int × Int)) : flatC (a ++ b) = flatC a ++ flatC b := by simp [flatC]
theorem flatC_at (l : List (Int × Int)) : ∀ (t : Nat), t < l.length * 2 → (flatC l)[t]? = some (encC l.toArray[t / 2]!)[t % 2]! := by
  induction l with
  | nil => intro t h; simp at h
  | cons x l ih =>
    intro t h
    have e : flatC (x :: l) = Value.int .i64 x.1 :: Value.int .i64 x.2 :: flatC l := rfl
    rw [e]
    match t, h with
    | 0, _ => simp [encC]
    | 1, _ => simp [encC]
    | t + 2, h =>
      rw [List.getElem?_cons_succ, List.getElem?_cons_succ, ih t (by simp at h; omega), show (t + 2) / 2 = t / 2 + 1 by omega, show (t + 2) % 2 = t % 2 by omega]
      simp
/-- A row of changes of the call's own, held. -/
theorem own_holds {w : World} {B n : Nat} {e : TypeId} {v : Value} (l : List (Int × Int)) (hn : n = l.length) (h0 : 0 < n) (h : w.ownsRow B e 2 v n (flatC l)) :
    ∃ g cap, v = .slice (some ⟨g, 0, none⟩) n cap ∧ B ≤ g ∧ g < w.heap.size ∧ HoldsK encC 2 w g 0 l.toArray := by
  rcases h.2 with ⟨_, h1⟩ | ⟨g, cap, cur, hv, hB, hg, _, _, hs, ht⟩
  · omega
  · have hlt : g < w.heap.size := by
      rcases Nat.lt_or_ge g w.heap.size with k | k
      · exact k
      · rw [Array.getElem?_eq_none k] at hg; cases hg
    refine ⟨g, cap, hv, hB, hlt, fun j hj => ?_⟩
    rw [size_flatK] at hj
    have hj' : j < l.length * 2 := by simpa using hj
    have hc := flatC_at l j hj'
    rw [get_flatK _ _ _ _ hj, Nat.zero_add]
    refine ⟨?_, frozen_of_row w g j cur e hg⟩
    rw [cell_of_row w g j cur e (0, 0) hg, ← Array.getElem?_toList]
    rw [← ht, List.getElem?_take_of_lt (by rw [hn]; exact hj')] at hc
    exact hc

theorem perm_of {l : List (Int × Int)} {d' : Array (Int × Int)} (h : PermIn 0 l.toArray.size l.toArray d') : l.Perm d'.toList := by
  obtain ⟨h1, _, h3⟩ := h
  have e1 : (l.toArray.extract 0 l.toArray.size) = l.toArray := by simp
  have e2 : (d'.extract 0 l.toArray.size) = d' := by rw [← h1]; simp
  rw [e1, e2] at h3
  simpa using h3.symm
theorem asc_of {d' : Array (Int × Int)} {n : Nat} (hn : n = d'.size) (h : SortedIn (ltOf cmpC) 0 n d') : Asc d'.toList := by
  intro i j x y hij hx hy
  have hj : j < d'.size := by
    have := (List.getElem?_eq_some_iff.1 hy).1
    simpa using this
  have := h i j (Nat.zero_le _) hij (by omega)
  rw [ltC] at this
  rw [Array.getElem?_toList] at hx hy
  have ex : d'[i]! = x := by rw [getElem!_pos d' i (by omega)]; rw [Array.getElem?_eq_getElem (by omega)] at hx; exact Option.some.inj hx
  have ey : d'[j]! = y := by rw [getElem!_pos d' j hj]; rw [Array.getElem?_eq_getElem hj] at hy; exact Option.some.inj hy
  rw [ex, ey] at this
  simp at this
  exact this

theorem sort_any (g cap B : Nat) (l : List (Int × Int)) (w : World) (hH : HoldsK encC 2 w g 0 l.toArray) (hg : g < w.heap.size) (hB : B ≤ g) (hl : l.length < 4611686018427387904) :
    Calls Try.prog 42 #[.slice (some ⟨g, 0, none⟩) l.length cap, .func (.func 43) #[] #[]] w fun e w' =>
      e = .returned (.tuple #[]) ∧ ∃ c : List (Int × Int), l.Perm c ∧ Asc c ∧ HoldsK encC 2 w' g 0 c.toArray ∧ g < w'.heap.size ∧ RowKit.Below B w w' := by
  have h := AnyQ.slices_SortFunc sortLay 2 Try.isAgg58 Try.sizeOf58 encC (fun _ => rfl) (fun x v hv => by simp [encC] at hv; rcases hv with rfl | rfl <;> rfl) cmpC swoC 43 #[] g 0 cap l.toArray w
    (enters_of Try.func43 (by kernel_rfl) rfl) (fun _ _ _ _ x y => closureC x y _) hH hg (by simpa using hl)
  rw [List.size_toArray] at h
  refine h.mono ?_
  rintro e w' ⟨he, d', n, os, hp, hs, rfl⟩
  refine ⟨he, d'.toList, perm_of (by simpa using hp), asc_of (n := l.length) (by simpa using hp.1.symm) hs, ?_, ?_, below_sorted hB (by omega)⟩
  · rw [Array.toArray_toList]
    exact holdsK_sortWorldK_c encC 2 w g 0 l.toArray d' n os hH hg (by simpa using hp.1)
  · exact Nat.lt_of_lt_of_le hg (size_sortWorldK_c encC 2 w g 0 n d' os)
theorem sort_none (v : Value) (w : World) : Calls Try.prog 42 #[.slice none 0 0, v] w fun e w' => e = .returned (.tuple #[]) ∧ w' = w := AnyF.slices_SortFunc_none sortLay none 0 v w
end Go.Proofs.Ytjhcdkllneeijaa
