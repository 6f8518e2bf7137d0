/- The chapter's example rules in memory. -/
import Derived.Test.YtiglkecmamnphaaMk
namespace Go.Proofs.Ytiglkecmamnphaa
open Go.RowKit Go.Sort Go.Lib

set_option maxRecDepth 100000 in
set_option maxHeartbeats 4000000 in
theorem example_any (w : World) :
    Calls Try.prog 21 #[] w fun e w' => ∃ cv fv, e = .returned (.agg #[cv, nilS, fv]) ∧ BkV w' w'.heap.size cv nilS fv exB0 ∧ Below w.heap.size w w' := by
  have r0 := Row.made w 34 #[nilS, nilS, nilS]
  obtain ⟨k0, k1, k2, f0, f1, f2⟩ := r0.three
  go_enter Try.func21, Try.ntmps21
  go_wp2
  refine bodyPost_ret (res_bk rfl rfl ((((((Row.made _ _ _).later _).later _).later _).later _).later _)) rfl ?_
  generalize hA : w.alloc (.cells #[.slice (some ⟨w.heap.size + 1 + 1 + 1 + 1, 0, none⟩) 2 2, .slice none 0 0, .slice (some ⟨w.heap.size + 1 + 1 + 1 + 1 + 1, 0, none⟩) 2 2] 34) = A
  have sA : A.heap.size = w.heap.size + 1 := by rw [← hA]; simp
  have bA : Below w.heap.size w A := by rw [← hA]; exact below_alloc _ _
  clear hA k0 k1 k2 f0 f1 f2 r0
  have o1 : (A.alloc (.cells #[.int .i64 0] 3)).ownsRow 0 3 1 (.slice (some ⟨A.heap.size, 0, none⟩) 1 1) 1 (iC [0]) := World.ownsRow_lit A _ 1 (Nat.zero_le _) (by decide) rfl
  generalize hB : A.alloc (.cells #[.int .i64 0] 3) = B at *
  have sB : B.heap.size = A.heap.size + 1 := by rw [← hB]; simp
  have bB : Below w.heap.size w B := by rw [← hB]; exact keep_alloc bA _
  have o2 : (B.alloc (.cells #[.int .i64 2] 3)).ownsRow 0 3 1 (.slice (some ⟨B.heap.size, 0, none⟩) 1 1) 1 (iC [2]) := World.ownsRow_lit B _ 1 (Nat.zero_le _) (by decide) rfl
  replace o1 := o1.alloc (.cells #[.int .i64 2] 3)
  generalize hC : B.alloc (.cells #[.int .i64 2] 3) = C at *
  have sC : C.heap.size = B.heap.size + 1 := by rw [← hC]; simp
  have bC : Below w.heap.size w C := by rw [← hC]; exact keep_alloc bB _
  have o3 : (C.alloc (.cells #[.int .i64 1] 3)).ownsRow 0 3 1 (.slice (some ⟨C.heap.size, 0, none⟩) 1 1) 1 (iC [1]) := World.ownsRow_lit C _ 1 (Nat.zero_le _) (by decide) rfl
  replace o1 := o1.alloc (.cells #[.int .i64 1] 3)
  replace o2 := o2.alloc (.cells #[.int .i64 1] 3)
  generalize hD : C.alloc (.cells #[.int .i64 1] 3) = D at *
  have sD : D.heap.size = C.heap.size + 1 := by rw [← hD]; simp
  have bD : Below w.heap.size w D := by rw [← hD]; exact keep_alloc bC _
  rw [show w.heap.size + 1 + 1 + 1 = C.heap.size by omega, show w.heap.size + 1 + 1 = B.heap.size by omega, show w.heap.size + 1 = A.heap.size by omega, show C.heap.size + 1 = D.heap.size by omega]
  have e0 : flG clsL [((⟨100, 200, 1000, [0], [2], 3⟩ : Cls), Value.slice (some ⟨A.heap.size, 0, none⟩) 1 1, Value.slice (some ⟨B.heap.size, 0, none⟩) 1 1), ((⟨300, 250, 1000, [1], [], 3⟩ : Cls), Value.slice (some ⟨C.heap.size, 0, none⟩) 1 1, nilS)] = [.int .i64 100, .int .i64 200, .int .i64 1000, .slice (some ⟨A.heap.size, 0, none⟩) 1 1, .slice (some ⟨B.heap.size, 0, none⟩) 1 1, .int .i64 3, .int .i64 300, .int .i64 250, .int .i64 1000, .slice (some ⟨C.heap.size, 0, none⟩) 1 1, .slice none 0 0, .int .i64 3] := rfl
  have o4 : (D.alloc (.cells #[.int .i64 100, .int .i64 200, .int .i64 1000, .slice (some ⟨A.heap.size, 0, none⟩) 1 1, .slice (some ⟨B.heap.size, 0, none⟩) 1 1, .int .i64 3, .int .i64 300, .int .i64 250, .int .i64 1000, .slice (some ⟨C.heap.size, 0, none⟩) 1 1, .slice none 0 0, .int .i64 3] 51)).ownsRow 0 51 6 (.slice (some ⟨D.heap.size, 0, none⟩) 2 2) 2 _ := World.ownsRow_lit D _ 2 (Nat.zero_le _) (by decide) rfl
  generalize hN : (.cells #[.int .i64 100, .int .i64 200, .int .i64 1000, .slice (some ⟨A.heap.size, 0, none⟩) 1 1, .slice (some ⟨B.heap.size, 0, none⟩) 1 1, .int .i64 3, .int .i64 300, .int .i64 250, .int .i64 1000, .slice (some ⟨C.heap.size, 0, none⟩) 1 1, .slice none 0 0, .int .i64 3] 51 : Obj) = N at *
  replace o1 := o1.alloc N
  replace o2 := o2.alloc N
  replace o3 := o3.alloc N
  generalize hE : D.alloc N = E at *
  have sE : E.heap.size = D.heap.size + 1 := by rw [← hE]; simp
  have bE : Below w.heap.size w E := by rw [← hE]; exact keep_alloc bD _
  rw [show D.heap.size + 1 = E.heap.size by omega]
  have o5 : (E.alloc (.cells #[.int .i64 7, .int .i64 0, .int .i64 0, .int .i64 1000, .int .i64 150, .int .i64 1000, .int .i64 7, .int .i64 2, .int .i64 500, .int .i64 1000, .int .i64 600, .int .i64 1000] 57)).ownsRow 0 57 6 (.slice (some ⟨E.heap.size, 0, none⟩) 2 2) 2 _ := World.ownsRow_lit E _ 2 (Nat.zero_le _) (by decide) rfl
  refine ⟨_, _, rfl, ?_, keep_alloc bE _⟩
  have key := OwnB.bkv (W := E.alloc (.cells #[.int .i64 7, .int .i64 0, .int .i64 0, .int .i64 1000, .int .i64 150, .int .i64 1000, .int .i64 7, .int .i64 2, .int .i64 500, .int .i64 1000, .int .i64 600, .int .i64 1000] 57)) (B := 0) (cs := [((⟨100, 200, 1000, [0], [2], 3⟩ : Cls), Value.slice (some ⟨A.heap.size, 0, none⟩) 1 1, Value.slice (some ⟨B.heap.size, 0, none⟩) 1 1), ((⟨300, 250, 1000, [1], [], 3⟩ : Cls), Value.slice (some ⟨C.heap.size, 0, none⟩) 1 1, nilS)]) (rs := []) (fs := [⟨7, 0, 0, 1000, 150, 1000⟩, ⟨7, 2, 500, 1000, 600, 1000⟩])
    ⟨o4.alloc _, fun p hp => by
      simp only [List.mem_cons, List.not_mem_nil, or_false] at hp
      rcases hp with rfl | rfl
      · exact ⟨o1.alloc _, o2.alloc _⟩
      · exact ⟨o3.alloc _, IRow.nil _⟩, World.ownsRow_nil _ _ _ _, o5⟩ (show (2 : Nat) ≤ Big by decide) (by decide) (by decide) (fun p hp => by
      simp only [List.mem_cons, List.not_mem_nil, or_false] at hp
      rcases hp with rfl | rfl <;> exact ⟨by show _ ≤ 9223372036854775807; simp, by show _ ≤ 9223372036854775807; simp⟩)
  exact key
end Go.Proofs.Ytiglkecmamnphaa
