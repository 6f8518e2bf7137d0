/- which: the numbers of a list that are wanted. -/
import Derived.Test.YtiglkecmamnphaaAdd
namespace Go.Proofs.Ytiglkecmamnphaa
open Go.RowKit Go.Sort Go.Lib

/-- A function value that answers p at the numbers of S, in every world in which what lay in w0 lies as it did. -/
def PredIs (w0 : World) (V : Value) (S : List Int) (p : Int → Bool) : Prop :=
  ∃ k cb, V = .func (.func k) #[] cb ∧ (∀ args W, (callFunc k args).run Try.prog W = .ok (.enter k args) W) ∧
    ∀ W, Below w0.heap.size w0 W → ∀ x ∈ S, Calls Try.prog k (#[.int .i64 x] ++ cb) W fun e w' => e = .returned (.bool (p x)) ∧ Below W.heap.size W w'
theorem up_filter {l : List Int} (h : Up l) (p : Int → Bool) : Up (l.filter p) := List.Pairwise.filter p h
theorem up_take {l : List Int} (h : Up l) (k : Nat) : Up (l.take k) := List.Pairwise.sublist (List.take_sublist k l) h
theorem up_lt {l : List Int} (h : Up l) {k : Nat} {x : Int} (hx : l[k]? = some x) : ∀ y ∈ l.take k, y < x := fun y hy => by
  obtain ⟨j, hj⟩ := List.getElem?_of_mem hy
  rw [List.getElem?_take] at hj
  split at hj
  · rename_i hjk
    obtain ⟨h1, h2⟩ := List.getElem?_eq_some_iff.1 hj
    obtain ⟨h3, h4⟩ := List.getElem?_eq_some_iff.1 hx
    have := List.pairwise_iff_getElem.1 h j k h1 h3 hjk
    omega
  · cases hj
/-- One number above all of them, put to the list by add. -/
theorem add_one (base : Nat) (v : Value) (l : List Int) (g0 : Nat) (x : Int) (w : World) (hbase : base ≤ w.heap.size) (hown : w.ownsRow base 3 1 v l.length (iC l)) (hx : w.cell? ⟨g0, 0, none⟩ = some (.int .i64 x)) (hg0 : g0 < w.heap.size) (hu : Up l) (hl : ∀ y ∈ l, y < x) (hlen : l.length ≤ 900) :
    Calls Try.prog 34 #[v, .slice (some ⟨g0, 0, none⟩) 1 1] w fun e w' => ∃ g cap, e = .returned (.slice (some ⟨g, 0, none⟩) (l.length + 1) cap) ∧ w'.ownsRow base 3 1 (.slice (some ⟨g, 0, none⟩) (l.length + 1) cap) (l ++ [x]).length (iC (l ++ [x])) ∧ w.grownBy w' v.ownBlock ∧ (v.ownBlock = some g ∨ w.heap.size ≤ g) := by
  have h := add_any base v l (some ⟨g0, 0, none⟩) 1 [x] w hbase hown (.inr ⟨g0, 0, rfl, hg0, fun i r hr => by
    cases i with
    | zero => cases hr; exact hx
    | succ i => cases hr⟩) (by simp) (by simp; omega)
  rw [addS_snoc hu hl] at h
  rw [List.length_append] at h ⊢
  exact h

set_option maxRecDepth 100000 in
set_option maxHeartbeats 8000000 in
theorem which_any (l : List Int) (A : Option Addr) (c : Nat) (V : Value) (p : Int → Bool) (hu : Up l) (hn : l.length ≤ 100) (w : World) (hl : Nums w w.heap.size A l) (hp : PredIs w V l p) :
    Calls Try.prog 52 #[.slice A l.length c, V] w fun e w' => ∃ v, e = .returned v ∧ w'.ownsRow w.heap.size 3 1 v (l.filter p).length (iC (l.filter p)) ∧ Below w.heap.size w w' := by
  obtain ⟨f, cb, rfl, he, hc⟩ := hp
  obtain ⟨L, hL⟩ : ∃ L, L = l.length := ⟨_, rfl⟩
  rw [← hL]
  rw [← hL] at hn
  have HL := Lib.hid hL; have HN := Lib.hid hl; have HC := Lib.hid hc; have HU := Lib.hid hu
  clear hL hl hc hu
  go_enter Try.func52, Try.ntmps52
  go_wp2
  go_loopg [5, 7, 10] L (fun kx s5 s7 s10 wr => ∃ k : Nat, s10 = .int .i64 (k : Int) ∧ k + kx = L ∧ wr.ownsRow w.heap.size 3 1 s5 ((l.take k).filter p).length (iC ((l.take k).filter p)) ∧ Below w.heap.size w wr)
  case atStart => exact ⟨0, rfl, by omega, World.ownsRow_nil _ _ _ _, Below.refl _ _⟩
  case round =>
    obtain ⟨k, rfl, hk, ho, hb⟩ := hrel
    by_cases hlt : k < L
    · obtain ⟨x, hv⟩ : ∃ y, l[k]? = some y := at_lt (by rw [← HL.out]; exact hlt)
      obtain ⟨bb, o, hA, hbb, e0⟩ := (HN.out.below hb).at hv
      subst hA
      have hx := HC.out wr hb x (List.mem_of_getElem? hv)
      have hs : (l.take (k + 1)).filter p = (l.take k).filter p ++ (if p x then [x] else []) := by
        rw [List.take_add_one, hv, List.filter_append]
        simp [List.filter_cons]
      have hup := up_filter (up_take HU.out k) p
      have hlx : ∀ y ∈ (l.take k).filter p, y < x := fun y hy => up_lt HU.out hv y (List.mem_filter.1 hy).1
      have hlen : ((l.take k).filter p).length ≤ 900 := by
        have h1 := List.length_filter_le p (l.take k)
        rw [List.length_take] at h1
        omega
      generalize (l.take k).filter p = F at *
      generalize hq : p x = q at *
      have HX := Lib.hid hx; have HS := Lib.hid hs; have HO := Lib.hid ho; have HB := Lib.hid hb; have HUP := Lib.hid hup; have HLX := Lib.hid hlx; have HLE := Lib.hid hlen
      clear hx hs ho hb hup hlx hlen hv hq
      cases q
      · go_wp2_with (first | (go_at_fn f; (refine HX.out.mono ?_); rintro e w2 ⟨rfl, b2⟩; have B2 := Lib.hid (below_step HB.out b2); have O2 := Lib.hid (own_over HO.out b2); clear b2) | fail)
        go_roundg (L - (k + 1))
        case measure => omega
        case rel => exact ⟨k + 1, by go_num, by omega, by rw [HS.out]; simpa using O2.out, B2.out⟩
      · go_wp2_with (first
          | (go_at_fn f; (refine HX.out.mono ?_); rintro e w2 ⟨rfl, b2⟩; have B2 := Lib.hid (below_step HB.out b2); have O2 := Lib.hid (own_over HO.out b2); clear b2)
          | (go_at_call 34; (with_reducible refine (add_one w.heap.size _ F w2.heap.size x _ (by simp; exact Nat.le_succ_of_le B2.out.size) (O2.out.alloc _) (by simp) (by simp) HUP.out HLX.out HLE.out).mono ?_); rintro e w3 ⟨g3, c3, rfl, o3, hg3, _⟩; have O3 := Lib.hid o3; have B3 := Lib.hid (keep_grown (keep_alloc B2.out _) hg3 (O2.out.alloc _)); clear o3 hg3)
          | fail)
        go_roundg (L - (k + 1))
        case measure => omega
        case rel => exact ⟨k + 1, by go_num, by omega, by rw [HS.out]; simpa using O3.out, B3.out⟩
    · have hf : l.take k = l := List.take_of_length_le (by rw [← HL.out]; omega)
      rw [hf] at ho
      have HO := Lib.hid ho; have HB := Lib.hid hb
      clear ho hb
      go_wp2
      go_ret
      exact ⟨_, rfl, HO.out, HB.out⟩
end Go.Proofs.Ytiglkecmamnphaa
