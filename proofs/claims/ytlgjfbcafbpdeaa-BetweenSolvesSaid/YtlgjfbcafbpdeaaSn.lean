/- sane: its walk. -/
import Derived.Test.YtlgjfbcafbpdeaaEx
namespace Go.Proofs.Ytlgjfbcafbpdeaa
open Go.RowKit

theorem lit_rws {W : World} {g : Nat} {A1 A2 A3 : Option Addr} {r1 r2 r3 : List Int} {c1 c2 c3 : Nat} (hg : W.heap.size = g) (h1 : Nums W W.heap.size A1 r1) (h2 : Nums W W.heap.size A2 r2) (h3 : Nums W W.heap.size A3 r3) (t : TypeId) (C : Array Value) (hC : C = #[.slice A1 r1.length c1, .slice A2 r2.length c2, .slice A3 r3.length c3]) :
    Rws (W.alloc (.cells C t)) (W.alloc (.cells C t)).heap.size (some ⟨g, 0, none⟩) [r1, r2, r3] := by
  subst hg hC
  refine .inr ⟨W.heap.size, 0, rfl, by simp, fun i r hr => ?_⟩
  have k := Row.made W t #[.slice A1 r1.length c1, .slice A2 r2.length c2, .slice A3 r3.length c3]
  rw [Nat.zero_add]
  match i, hr with
  | 0, hr => cases hr; exact ⟨A1, c1, k.at rfl, h1.deep (below_alloc _ _)⟩
  | 1, hr => cases hr; exact ⟨A2, c2, k.at rfl, h2.deep (below_alloc _ _)⟩
  | 2, hr => cases hr; exact ⟨A3, c3, k.at rfl, h3.deep (below_alloc _ _)⟩
  | (i + 3), hr => simp at hr
theorem e_tabs (A B : Option Addr) (c k : Nat) (W : World) (a : List (List Int)) (hl : a.length = 3) (h1 : ∀ r ∈ a, r.length ≤ 100000) (ha : Rws W W.heap.size A a) (hb : Rws W W.heap.size B a) :
    Calls Try.prog 24 #[.slice A 3 c, .slice B 3 k] W fun e w' => e = .returned (.bool true) ∧ Below W.heap.size W w' := by
  have := e_tables A c W B k a a (by omega) (by omega) h1 h1 ha hb
  rw [hl, decide_eq_true rfl] at this
  exact this
theorem e_intz (A B : Option Addr) (c k : Nat) (W : World) (a : List Int) (n : Nat) (hl : a.length = n) (hn : n ≤ 1000) (ha : Nums W W.heap.size A a) (hb : Nums W W.heap.size B a) :
    Calls Try.prog 25 #[.slice A n c, .slice B n k] W fun e w' => e = .returned (.bool true) ∧ Below W.heap.size W w' := by
  have := e_ints A c W B k a a (by omega) (by omega) ha hb
  rw [hl, decide_eq_true rfl] at this
  exact this
macro "bel" : tactic => `(tactic| (repeat (first | exact Below.refl _ _ | refine keep_alloc ?_ _ | refine Below.drew ?_)))
theorem s_tab1 (W : World) (s c : Nat) (h : Rws W W.heap.size (some ⟨s, 0, none⟩) [[0, 5, 3], [-2, 0, -2], [0, 5, 0]]) :
    Calls Try.prog 24 #[.slice (some ⟨s, 0, none⟩) 3 c, .slice (some ⟨W.heap.size + 1 + 1 + 1, 0, none⟩) 3 3] ((((W.alloc (.cells #[.int .i64 0, .int .i64 5, .int .i64 3] 3)).alloc (.cells #[.int .i64 (-2), .int .i64 0, .int .i64 (-2)] 3)).alloc (.cells #[.int .i64 0, .int .i64 5, .int .i64 0] 3)).alloc (.cells #[.slice (some ⟨W.heap.size, 0, none⟩) 3 3, .slice (some ⟨W.heap.size + 1, 0, none⟩) 3 3, .slice (some ⟨W.heap.size + 1 + 1, 0, none⟩) 3 3] 22)) fun e w' => e = .returned (.bool true) ∧ Below W.heap.size W w' := by
  have n1 : Nums (W.alloc (.cells #[.int .i64 0, .int .i64 5, .int .i64 3] 3)) (W.alloc (.cells #[.int .i64 0, .int .i64 5, .int .i64 3] 3)).heap.size (some ⟨W.heap.size, 0, none⟩) [0, 5, 3] := made_nums_at rfl _ _ rfl
  have n2 : Nums ((W.alloc (.cells #[.int .i64 0, .int .i64 5, .int .i64 3] 3)).alloc (.cells #[.int .i64 (-2), .int .i64 0, .int .i64 (-2)] 3)) ((W.alloc (.cells #[.int .i64 0, .int .i64 5, .int .i64 3] 3)).alloc (.cells #[.int .i64 (-2), .int .i64 0, .int .i64 (-2)] 3)).heap.size (some ⟨W.heap.size + 1, 0, none⟩) [-2, 0, -2] := made_nums_at (by simp) _ _ rfl
  have n3 : Nums (((W.alloc (.cells #[.int .i64 0, .int .i64 5, .int .i64 3] 3)).alloc (.cells #[.int .i64 (-2), .int .i64 0, .int .i64 (-2)] 3)).alloc (.cells #[.int .i64 0, .int .i64 5, .int .i64 0] 3)) (((W.alloc (.cells #[.int .i64 0, .int .i64 5, .int .i64 3] 3)).alloc (.cells #[.int .i64 (-2), .int .i64 0, .int .i64 (-2)] 3)).alloc (.cells #[.int .i64 0, .int .i64 5, .int .i64 0] 3)).heap.size (some ⟨W.heap.size + 1 + 1, 0, none⟩) [0, 5, 0] := made_nums_at (by simp) _ _ rfl
  have n4 : Rws ((((W.alloc (.cells #[.int .i64 0, .int .i64 5, .int .i64 3] 3)).alloc (.cells #[.int .i64 (-2), .int .i64 0, .int .i64 (-2)] 3)).alloc (.cells #[.int .i64 0, .int .i64 5, .int .i64 0] 3)).alloc (.cells #[.slice (some ⟨W.heap.size, 0, none⟩) 3 3, .slice (some ⟨W.heap.size + 1, 0, none⟩) 3 3, .slice (some ⟨W.heap.size + 1 + 1, 0, none⟩) 3 3] 22)) ((((W.alloc (.cells #[.int .i64 0, .int .i64 5, .int .i64 3] 3)).alloc (.cells #[.int .i64 (-2), .int .i64 0, .int .i64 (-2)] 3)).alloc (.cells #[.int .i64 0, .int .i64 5, .int .i64 0] 3)).alloc (.cells #[.slice (some ⟨W.heap.size, 0, none⟩) 3 3, .slice (some ⟨W.heap.size + 1, 0, none⟩) 3 3, .slice (some ⟨W.heap.size + 1 + 1, 0, none⟩) 3 3] 22)).heap.size (some ⟨W.heap.size + 1 + 1 + 1, 0, none⟩) [[0, 5, 3], [-2, 0, -2], [0, 5, 0]] := lit_rws (by simp) (n1.deep (by bel)) (n2.deep (by bel)) n3 _ _ rfl
  exact (e_tabs _ _ _ _ _ [[0, 5, 3], [-2, 0, -2], [0, 5, 0]] rfl (by decide) (h.deep (by bel)) n4).mono fun e w' h => ⟨h.1, below_step (by bel) h.2⟩
theorem s_tab2 (W : World) (s c : Nat) (h : Rws W W.heap.size (some ⟨s, 0, none⟩) [[0, 5, 3], [1152921504606846976, 0, -2], [1152921504606846976, 1152921504606846976, 0]]) :
    Calls Try.prog 24 #[.slice (some ⟨s, 0, none⟩) 3 c, .slice (some ⟨W.heap.size + 1 + 1 + 1, 0, none⟩) 3 3] ((((W.alloc (.cells #[.int .i64 0, .int .i64 5, .int .i64 3] 3)).alloc (.cells #[.int .i64 1152921504606846976, .int .i64 0, .int .i64 (-2)] 3)).alloc (.cells #[.int .i64 1152921504606846976, .int .i64 1152921504606846976, .int .i64 0] 3)).alloc (.cells #[.slice (some ⟨W.heap.size, 0, none⟩) 3 3, .slice (some ⟨W.heap.size + 1, 0, none⟩) 3 3, .slice (some ⟨W.heap.size + 1 + 1, 0, none⟩) 3 3] 22)) fun e w' => e = .returned (.bool true) ∧ Below W.heap.size W w' := by
  have n1 : Nums (W.alloc (.cells #[.int .i64 0, .int .i64 5, .int .i64 3] 3)) (W.alloc (.cells #[.int .i64 0, .int .i64 5, .int .i64 3] 3)).heap.size (some ⟨W.heap.size, 0, none⟩) [0, 5, 3] := made_nums_at rfl _ _ rfl
  have n2 : Nums ((W.alloc (.cells #[.int .i64 0, .int .i64 5, .int .i64 3] 3)).alloc (.cells #[.int .i64 1152921504606846976, .int .i64 0, .int .i64 (-2)] 3)) ((W.alloc (.cells #[.int .i64 0, .int .i64 5, .int .i64 3] 3)).alloc (.cells #[.int .i64 1152921504606846976, .int .i64 0, .int .i64 (-2)] 3)).heap.size (some ⟨W.heap.size + 1, 0, none⟩) [1152921504606846976, 0, -2] := made_nums_at (by simp) _ _ rfl
  have n3 : Nums (((W.alloc (.cells #[.int .i64 0, .int .i64 5, .int .i64 3] 3)).alloc (.cells #[.int .i64 1152921504606846976, .int .i64 0, .int .i64 (-2)] 3)).alloc (.cells #[.int .i64 1152921504606846976, .int .i64 1152921504606846976, .int .i64 0] 3)) (((W.alloc (.cells #[.int .i64 0, .int .i64 5, .int .i64 3] 3)).alloc (.cells #[.int .i64 1152921504606846976, .int .i64 0, .int .i64 (-2)] 3)).alloc (.cells #[.int .i64 1152921504606846976, .int .i64 1152921504606846976, .int .i64 0] 3)).heap.size (some ⟨W.heap.size + 1 + 1, 0, none⟩) [1152921504606846976, 1152921504606846976, 0] := made_nums_at (by simp) _ _ rfl
  have n4 : Rws ((((W.alloc (.cells #[.int .i64 0, .int .i64 5, .int .i64 3] 3)).alloc (.cells #[.int .i64 1152921504606846976, .int .i64 0, .int .i64 (-2)] 3)).alloc (.cells #[.int .i64 1152921504606846976, .int .i64 1152921504606846976, .int .i64 0] 3)).alloc (.cells #[.slice (some ⟨W.heap.size, 0, none⟩) 3 3, .slice (some ⟨W.heap.size + 1, 0, none⟩) 3 3, .slice (some ⟨W.heap.size + 1 + 1, 0, none⟩) 3 3] 22)) ((((W.alloc (.cells #[.int .i64 0, .int .i64 5, .int .i64 3] 3)).alloc (.cells #[.int .i64 1152921504606846976, .int .i64 0, .int .i64 (-2)] 3)).alloc (.cells #[.int .i64 1152921504606846976, .int .i64 1152921504606846976, .int .i64 0] 3)).alloc (.cells #[.slice (some ⟨W.heap.size, 0, none⟩) 3 3, .slice (some ⟨W.heap.size + 1, 0, none⟩) 3 3, .slice (some ⟨W.heap.size + 1 + 1, 0, none⟩) 3 3] 22)).heap.size (some ⟨W.heap.size + 1 + 1 + 1, 0, none⟩) [[0, 5, 3], [1152921504606846976, 0, -2], [1152921504606846976, 1152921504606846976, 0]] := lit_rws (by simp) (n1.deep (by bel)) (n2.deep (by bel)) n3 _ _ rfl
  exact (e_tabs _ _ _ _ _ [[0, 5, 3], [1152921504606846976, 0, -2], [1152921504606846976, 1152921504606846976, 0]] rfl (by decide) (h.deep (by bel)) n4).mono fun e w' h => ⟨h.1, below_step (by bel) h.2⟩
theorem s_ints1 (W : World) (s c : Nat) (h : Nums W W.heap.size (some ⟨s, 0, none⟩) [-2, 0, -2]) :
    Calls Try.prog 25 #[.slice (some ⟨s, 0, none⟩) 3 c, .slice (some ⟨W.heap.size, 0, none⟩) 3 3] (W.alloc (.cells #[.int .i64 (-2), .int .i64 0, .int .i64 (-2)] 3)) fun e w' => e = .returned (.bool true) ∧ Below W.heap.size W w' := by
  have n1 : Nums (W.alloc (.cells #[.int .i64 (-2), .int .i64 0, .int .i64 (-2)] 3)) (W.alloc (.cells #[.int .i64 (-2), .int .i64 0, .int .i64 (-2)] 3)).heap.size (some ⟨W.heap.size, 0, none⟩) [-2, 0, -2] := made_nums_at rfl _ _ rfl
  exact (e_intz _ _ _ _ _ [-2, 0, -2] 3 rfl (by decide) (h.deep (by bel)) n1).mono fun e w' h => ⟨h.1, below_step (by bel) h.2⟩
theorem s_ints2 (W : World) (s c : Nat) (h : Nums W W.heap.size (some ⟨s, 0, none⟩) [0, 1]) :
    Calls Try.prog 25 #[.slice (some ⟨s, 0, none⟩) 2 c, .slice (some ⟨W.heap.size, 0, none⟩) 2 2] (W.alloc (.cells #[.int .i64 0, .int .i64 1] 3)) fun e w' => e = .returned (.bool true) ∧ Below W.heap.size W w' := by
  have n1 : Nums (W.alloc (.cells #[.int .i64 0, .int .i64 1] 3)) (W.alloc (.cells #[.int .i64 0, .int .i64 1] 3)).heap.size (some ⟨W.heap.size, 0, none⟩) [0, 1] := made_nums_at rfl _ _ rfl
  exact (e_intz _ _ _ _ _ [0, 1] 2 rfl (by decide) (h.deep (by bel)) n1).mono fun e w' h => ⟨h.1, below_step (by bel) h.2⟩
theorem s_ints3 (W : World) (s c : Nat) (h : Nums W W.heap.size (some ⟨s, 0, none⟩) [0, 1, 2]) :
    Calls Try.prog 25 #[.slice (some ⟨s, 0, none⟩) 3 c, .slice (some ⟨W.heap.size, 0, none⟩) 3 3] (W.alloc (.cells #[.int .i64 0, .int .i64 1, .int .i64 2] 3)) fun e w' => e = .returned (.bool true) ∧ Below W.heap.size W w' := by
  have n1 : Nums (W.alloc (.cells #[.int .i64 0, .int .i64 1, .int .i64 2] 3)) (W.alloc (.cells #[.int .i64 0, .int .i64 1, .int .i64 2] 3)).heap.size (some ⟨W.heap.size, 0, none⟩) [0, 1, 2] := made_nums_at rfl _ _ rfl
  exact (e_intz _ _ _ _ _ [0, 1, 2] 3 rfl (by decide) (h.deep (by bel)) n1).mono fun e w' h => ⟨h.1, below_step (by bel) h.2⟩
theorem s_cc4 (W : World) (A : Option Addr) (c : Nat) (h : Rds W W.heap.size A (exB (-4))) :
    Calls Try.prog 29 #[.agg #[.int .i64 3, .slice A 3 c], .slice (some ⟨W.heap.size, 0, none⟩) 3 3] (W.alloc (.cells #[.int .i64 1, .int .i64 2, .int .i64 0] 3)) fun e w' => e = .returned (.bool true) ∧ Below W.heap.size W w' := by
  have n1 : Nums (W.alloc (.cells #[.int .i64 1, .int .i64 2, .int .i64 0] 3)) (W.alloc (.cells #[.int .i64 1, .int .i64 2, .int .i64 0] 3)).heap.size (some ⟨W.heap.size, 0, none⟩) [1, 2, 0] := made_nums_at rfl _ _ rfl
  exact (e_checkCycle4 _ _ _ _ _ (h.deep (by bel)) n1).mono fun e w' h => ⟨h.1, below_step (by bel) h.2⟩
theorem s_cc0 (W : World) (A : Option Addr) (c : Nat) (h : Rds W W.heap.size A (exB 0)) :
    Calls Try.prog 29 #[.agg #[.int .i64 3, .slice A 3 c], .slice (some ⟨W.heap.size, 0, none⟩) 3 3] (W.alloc (.cells #[.int .i64 0, .int .i64 1, .int .i64 2] 3)) fun e w' => e = .returned (.bool false) ∧ Below W.heap.size W w' := by
  have n1 : Nums (W.alloc (.cells #[.int .i64 0, .int .i64 1, .int .i64 2] 3)) (W.alloc (.cells #[.int .i64 0, .int .i64 1, .int .i64 2] 3)).heap.size (some ⟨W.heap.size, 0, none⟩) [0, 1, 2] := made_nums_at rfl _ _ rfl
  exact (e_checkCycle _ _ _ _ _ (h.deep (by bel)) n1).mono fun e w' h => ⟨h.1, below_step (by bel) h.2⟩
theorem s_ch3 (W : World) (A : Option Addr) (c : Nat) (h : Rds W W.heap.size A (exB 0)) :
    Calls Try.prog 31 #[.agg #[.int .i64 3, .slice A 3 c], .agg #[.int .i64 0, .int .i64 2, .int .i64 3], .slice (some ⟨W.heap.size, 0, none⟩) 2 2] (W.alloc (.cells #[.int .i64 0, .int .i64 1] 3)) fun e w' => e = .returned (.bool true) ∧ Below W.heap.size W w' := by
  have n1 : Nums (W.alloc (.cells #[.int .i64 0, .int .i64 1] 3)) (W.alloc (.cells #[.int .i64 0, .int .i64 1] 3)).heap.size (some ⟨W.heap.size, 0, none⟩) [0, 1] := made_nums_at rfl _ _ rfl
  exact (e_checkChain3 _ _ _ _ _ (h.deep (by bel)) n1).mono fun e w' h => ⟨h.1, below_step (by bel) h.2⟩
theorem s_ch2 (W : World) (A : Option Addr) (c : Nat) (h : Rds W W.heap.size A (exB 0)) :
    Calls Try.prog 31 #[.agg #[.int .i64 3, .slice A 3 c], .agg #[.int .i64 0, .int .i64 2, .int .i64 2], .slice (some ⟨W.heap.size, 0, none⟩) 2 2] (W.alloc (.cells #[.int .i64 0, .int .i64 1] 3)) fun e w' => e = .returned (.bool false) ∧ Below W.heap.size W w' := by
  have n1 : Nums (W.alloc (.cells #[.int .i64 0, .int .i64 1] 3)) (W.alloc (.cells #[.int .i64 0, .int .i64 1] 3)).heap.size (some ⟨W.heap.size, 0, none⟩) [0, 1] := made_nums_at rfl _ _ rfl
  exact (e_checkChain2 _ _ _ _ _ (h.deep (by bel)) n1).mono fun e w' h => ⟨h.1, below_step (by bel) h.2⟩
theorem s_al (W : World) (A : Option Addr) (c : Nat) (h : Rds W W.heap.size A (exB 0)) :
    Calls Try.prog 27 #[.agg #[.int .i64 3, .slice A 3 c], .slice (some ⟨W.heap.size, 0, none⟩) 3 3] (W.alloc (.cells #[.int .i64 (-2), .int .i64 0, .int .i64 (-2)] 3)) fun e w' => e = .returned (.bool true) ∧ Below W.heap.size W w' := by
  have n1 : Nums (W.alloc (.cells #[.int .i64 (-2), .int .i64 0, .int .i64 (-2)] 3)) (W.alloc (.cells #[.int .i64 (-2), .int .i64 0, .int .i64 (-2)] 3)).heap.size (some ⟨W.heap.size, 0, none⟩) [-2, 0, -2] := made_nums_at rfl _ _ rfl
  exact (e_allowed _ _ _ _ _ (h.deep (by bel)) n1).mono fun e w' h => ⟨h.1, below_step (by bel) h.2⟩
theorem s_al1 (W : World) (A : Option Addr) (c : Nat) (h : Rds W W.heap.size A (exB 0)) :
    Calls Try.prog 27 #[.agg #[.int .i64 3, .slice A 3 c], .slice (some ⟨W.heap.size, 0, none⟩) 3 3] (W.alloc (.cells #[.int .i64 (-2), .int .i64 0, .int .i64 (-1)] 3)) fun e w' => e = .returned (.bool false) ∧ Below W.heap.size W w' := by
  have n1 : Nums (W.alloc (.cells #[.int .i64 (-2), .int .i64 0, .int .i64 (-1)] 3)) (W.alloc (.cells #[.int .i64 (-2), .int .i64 0, .int .i64 (-1)] 3)).heap.size (some ⟨W.heap.size, 0, none⟩) [-2, 0, -1] := made_nums_at rfl _ _ rfl
  exact (e_allowed1 _ _ _ _ _ (h.deep (by bel)) n1).mono fun e w' h => ⟨h.1, below_step (by bel) h.2⟩
set_option hygiene false in
macro "upd" : tactic => `(tactic| ((try replace E := Lib.hid (E.out.deep (below_step (by bel) b))); (try replace X1 := Lib.hid (X1.out.step (below_step (by bel) b))); (try replace D := Lib.hid (D.out.deep (below_step (by bel) b))); (try replace S := Lib.hid (S.out.deep (below_step (by bel) b))); (try replace L := Lib.hid (L.out.deep (below_step (by bel) b))); (try replace C := Lib.hid (C.out.deep (below_step (by bel) b))); (try replace O := Lib.hid (O.out.deep (below_step (by bel) b))); (try replace F := Lib.hid (F.out.deep (below_step (by bel) b))); (try replace BW := Lib.hid (below_step BW.out (below_step (by bel) b))); clear b))
set_option hygiene false in
macro "fac" : tactic => `(tactic| ((try clear k0); (try clear k1); (try clear i1); have k0 := X1.out.two.1; have k1 := X1.out.two.2.1; have i1 := X1.out.inside))
theorem lit {W : World} {A : Option Addr} {l : List Int} (h : Nums W W.heap.size A l) {X : World} (b : Below W.heap.size W X) : Nums X X.heap.size A l := h.deep b
theorem x_three {W X : World} {g : Nat} {A : Option Addr} (h : Row W g 28 #[.int .i64 3, .slice A 3 3]) (b : Below W.heap.size W X) : X.cell? ⟨g, 0, none⟩ = some (.int .i64 3) ∧ X.cell? ⟨g, 1, none⟩ = some (.slice A 3 3) := ⟨(h.step b).two.1, (h.step b).two.2.1⟩

set_option maxRecDepth 100000 in
set_option maxHeartbeats 8000000 in
theorem sane_any (w : World) : Calls Try.prog 10 #[] w fun e w' => e = .returned (.bool true) ∧ Below w.heap.size w w' := by
  have BW : Hid (Below w.heap.size w w) := Lib.hid (Below.refl _ _)
  go_enter Try.func10, Try.ntmps10
  go_upto_region 2 with (go_at_call 37; (with_reducible refine (example_any _ _).mono ?_); rintro e w1 ⟨A, rfl, r, b⟩; upd; have E := Lib.hid r; clear r)

  have X1 : Hid (Row (w1.alloc (.cells #[.int .i64 3, .slice A 3 3] 28)) w1.heap.size 28 #[.int .i64 3, .slice A 3 3]) := Lib.hid (Row.made _ _ _)
  replace E := Lib.hid (E.out.deep (below_alloc w1 (.cells #[.int .i64 3, .slice A 3 3] 28)))
  replace BW := Lib.hid (below_step BW.out (below_alloc w1 (.cells #[.int .i64 3, .slice A 3 3] 28)))
  fac
  go_upto_region 12 with (first
    | (go_at_call 16; (with_reducible refine (e_close _ _ _ (E.out.deep (by bel))).mono ?_); rintro e w2 ⟨s, rfl, r, b⟩; upd; have D := Lib.hid r; clear r; fac)
    | (go_at_call 18; (with_reducible refine (e_solve _ _ _ (E.out.deep (by bel))).mono ?_); rintro e w3 ⟨s', rfl, r, b⟩; upd; have S := Lib.hid r; clear r; fac)
    | (go_at_call 33; (with_reducible refine (e_implied _ _ _ (E.out.deep (by bel))).mono ?_); rintro e w4 ⟨l, lc, rfl, r, b⟩; upd; have L := Lib.hid r; clear r; fac)
    | (go_at_call 33; (with_reducible refine (e_implied2 _ _ _ (E.out.deep (by bel))).mono ?_); rintro e w5 ⟨rfl, b⟩; upd; fac)
    | (go_at_call 37; (with_reducible refine (example_any _ _).mono ?_); rintro e w6 ⟨A4, rfl, r, b⟩; upd; have F := Lib.hid r; clear r; fac)
    | (go_at_call 20; (with_reducible refine (e_cycle4 _ _ _ (F.out.deep (by bel))).mono ?_); rintro e w7 ⟨y, yc, rfl, r, b⟩; upd; have C := Lib.hid r; clear r F; fac)
    | (go_at_call 20; (with_reducible refine (e_cycle _ _ _ (E.out.deep (by bel))).mono ?_); rintro e w8 ⟨rfl, b⟩; upd; fac)
    | (go_at_call 18; (with_reducible refine (e_solve4 _ _ _ (F.out.deep (by bel))).mono ?_); rintro e w9 ⟨rfl, b⟩; upd; clear F; fac)
    | (go_at_call 16; (with_reducible refine (e_close2 _ _ _ (E.out.deep (by bel))).mono ?_); rintro e w10 ⟨o, rfl, r, b⟩; upd; have O := Lib.hid r; clear r; fac))
  clear i1
  fac
  go_wp2_with (first
    | (go_at_call 24; (with_reducible refine (s_tab1 _ _ _ D.out).mono ?_); rintro e w11 ⟨rfl, b⟩; upd; fac)
    | (go_at_call 24; (with_reducible refine (s_tab2 _ _ _ O.out).mono ?_); rintro e w12 ⟨rfl, b⟩; upd; fac)
    | (go_at_call 25; (with_reducible refine (s_ints1 _ _ _ S.out).mono ?_); rintro e w13 ⟨rfl, b⟩; upd; fac)
    | (go_at_call 25; (with_reducible refine (s_ints2 _ _ _ L.out).mono ?_); rintro e w14 ⟨rfl, b⟩; upd; fac)
    | (go_at_call 25; (with_reducible refine (s_ints3 _ _ _ C.out).mono ?_); rintro e w15 ⟨rfl, b⟩; upd; fac)
    | (go_at_call 37; (with_reducible refine (example_any _ _).mono ?_); rintro e w16 ⟨A5, rfl, r, b⟩; upd; have F := Lib.hid r; clear r; fac)
    | (go_at_call 29; (with_reducible refine (s_cc4 _ _ _ F.out).mono ?_); rintro e w17 ⟨rfl, b⟩; upd; fac)
    | (go_at_call 29; (with_reducible refine (s_cc0 _ _ _ E.out).mono ?_); rintro e w18 ⟨rfl, b⟩; upd; fac)
    | (go_at_call 31; (with_reducible refine (s_ch3 _ _ _ E.out).mono ?_); rintro e w19 ⟨rfl, b⟩; upd; fac)
    | (go_at_call 31; (with_reducible refine (s_ch2 _ _ _ E.out).mono ?_); rintro e w20 ⟨rfl, b⟩; upd; fac)
    | (go_at_call 22; (with_reducible refine (e_valid _ _ _ E.out).mono ?_); rintro e w21 ⟨rfl, b⟩; upd; fac)
    | (go_at_call 22; (with_reducible refine (e_valid17 _).mono ?_); rintro e w22 ⟨rfl, b⟩; upd; fac)
    | (go_at_call 27; (with_reducible refine (s_al _ _ _ E.out).mono ?_); rintro e w23 ⟨rfl, b⟩; upd; fac)
    | (go_at_call 27; (with_reducible refine (s_al1 _ _ _ E.out).mono ?_); rintro e w24 ⟨rfl, b⟩; upd; fac))

  go_ret
  exact ⟨rfl, BW.out⟩
end Go.Proofs.Ytlgjfbcafbpdeaa
