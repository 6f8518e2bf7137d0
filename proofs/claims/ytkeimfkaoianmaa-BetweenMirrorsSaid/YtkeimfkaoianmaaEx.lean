/- The law's example; what the program answers of it. -/
import Derived.Test.YtkeimfkaoianmaaMa2
import Derived.Test.YtkeimfkaoianmaaCk2
import Derived.Test.YtkeimfkaoianmaaCyc
namespace Go.Proofs.Ytkeimfkaoianmaa
open Go.RowKit

def exB (m : Int) : List Bn := [(0, 1, 5), (1, 2, -2), (2, 0, m)]
/-- A literal row of bounds. -/
theorem made_rds (W : World) (rs : List Bn) (C : Array Value) (hC : C = (flat3 rs).toArray) : Rds (W.alloc (.cells C 30)) (W.heap.size + 1) (some ⟨W.heap.size, 0, none⟩) rs := by
  refine .inr ⟨W.heap.size, 0, rfl, Nat.lt_succ_self _, fun i r hr => ?_⟩
  obtain ⟨c0, c1, c2⟩ := flat3_at rs i r hr
  have k : Row (W.alloc (.cells C 30)) W.heap.size 30 C := Row.made _ _ _
  rw [Nat.zero_add]
  subst hC
  exact ⟨k.at (by simpa using c0), k.at (by simpa using c1), k.at (by simpa using c2)⟩
theorem made_nums (W : World) (l : List Int) : Nums (W.alloc (.cells (l.map fun x => Value.int .i64 x).toArray 3)) (W.heap.size + 1) (some ⟨W.heap.size, 0, none⟩) l := by
  refine .inr ⟨W.heap.size, 0, rfl, Nat.lt_succ_self _, fun i r hr => ?_⟩
  rw [Nat.zero_add]
  exact (Row.made W 3 _).at (by simp [hr])
theorem made_rds_at {W : World} {g : Nat} (hg : W.heap.size = g) (rs : List Bn) (C : Array Value) (hC : C = (flat3 rs).toArray) : Rds (W.alloc (.cells C 30)) (W.alloc (.cells C 30)).heap.size (some ⟨g, 0, none⟩) rs := by
  subst hg
  exact (made_rds W rs C hC).more (by simp)
theorem made_nums_at {W : World} {g : Nat} (hg : W.heap.size = g) (l : List Int) (C : Array Value) (hC : C = (l.map fun x => Value.int .i64 x).toArray) : Nums (W.alloc (.cells C 3)) (W.alloc (.cells C 3)).heap.size (some ⟨g, 0, none⟩) l := by
  subst hg hC
  exact (made_nums W l).more (by simp)
theorem row_nums {w : World} {s n : Nat} {f : Int → Int} (h : Row w s 3 (rowA n f)) : Nums w w.heap.size (some ⟨s, 0, none⟩) ((List.range n).map fun i : Nat => f i) := by
  refine .inr ⟨s, 0, rfl, h.inside, fun i r hr => ?_⟩
  rw [Nat.zero_add]
  have hi : i < n := by
    rcases Nat.lt_or_ge i n with k | k
    · exact k
    · rw [List.getElem?_eq_none (by simpa using k)] at hr; cases hr
  have e : r = f i := by rw [List.getElem?_map, List.getElem?_range hi] at hr; simpa using hr.symm
  rw [e]
  exact h.at (rowA_at f hi)
/-- A table's rows. -/
def tblL (n : Nat) (f : Int → Int → Int) : List (List Int) := (List.range n).map fun i : Nat => (List.range n).map fun k : Nat => f i k
theorem tbl_rws {w : World} {s n : Nat} {f : Int → Int → Int} (h : Tbl w s n f) : Rws w w.heap.size (some ⟨s, 0, none⟩) (tblL n f) := by
  refine .inr ⟨s, 0, rfl, by have := h.inside; omega, fun i r hr => ?_⟩
  have hi : i < n := by
    rcases Nat.lt_or_ge i n with k | k
    · exact k
    · rw [tblL, List.getElem?_eq_none (by simpa using k)] at hr; cases hr
  have e : r = (List.range n).map fun k : Nat => f i k := by rw [tblL, List.getElem?_map, List.getElem?_range hi] at hr; simpa using hr.symm
  rw [e, Nat.zero_add, List.length_map, List.length_range]
  exact ⟨_, _, h.cell hi, row_nums (h.rows i hi)⟩
theorem Rds.take {w : World} {B : Nat} {A : Option Addr} {rs : List Bn} (h : Rds w B A rs) (k : Nat) : Rds w B A (rs.take k) := by
  rcases h with rfl | ⟨b, o, hA, hB, hc⟩
  · exact .inl (by simp)
  · refine .inr ⟨b, o, hA, hB, fun i r hr => hc i r ?_⟩
    rw [List.getElem?_take] at hr
    split at hr
    · exact hr
    · cases hr

set_option maxRecDepth 100000 in
set_option maxHeartbeats 4000000 in
theorem example_any (m : Int) (w : World) :
    Calls Try.prog 37 #[.int .i64 m] w fun e w' => ∃ A : Option Addr, e = .returned (.agg #[.int .i64 3, .slice A 3 3]) ∧ Rds w' w'.heap.size A (exB m) ∧ Below w.heap.size w w' := by
  have two : Row (w.alloc (.cells #[.int .i64 0, .slice none 0 0] 28)) w.heap.size 28 #[.int .i64 0, .slice none 0 0] := Row.made _ _ _
  have TWO := Lib.hid two
  clear two
  go_enter Try.func37, Try.ntmps37
  go_wp2
  refine bodyPost_ret (res_btw rfl rfl ((Row.made w _ _).later _)) rfl ?_
  exact ⟨some ⟨w.heap.size + 1, 0, none⟩, rfl, made_rds_at (by simp) (exB m) _ rfl, keep_alloc (below_alloc _ _) _⟩

section
variable (A : Option Addr) (c : Nat) (W : World)
theorem exOk (m : Int) (h : validB 3 (exB m) = true) : Okb ((3 : Nat) : Int) (exB m) := (validB_iff.1 h).2.2
theorem e_close (h : Rds W W.heap.size A (exB 0)) : Calls Try.prog 16 #[.agg #[.int .i64 3, .slice A 3 c]] W fun e w' =>
    ∃ s, e = .returned (.tuple #[.slice (some ⟨s, 0, none⟩) 3 3, .int .i64 0]) ∧ Rws w' w'.heap.size (some ⟨s, 0, none⟩) [[0, 5, 3], [-2, 0, -2], [0, 5, 0]] ∧ Below W.heap.size W w' := by
  refine (close_yes 3 (exB 0) A c (by decide +kernel) (by decide +kernel) W h).mono ?_
  rintro e w' ⟨s, rfl, ht, hb⟩
  have := tbl_rws ht
  rw [show tblL 3 (tb (exB 0) 3) = [[0, 5, 3], [-2, 0, -2], [0, 5, 0]] by decide +kernel] at this
  exact ⟨s, rfl, this, hb⟩
theorem e_close2 (h : Rds W W.heap.size A (exB 0)) : Calls Try.prog 16 #[.agg #[.int .i64 3, .slice A 2 c]] W fun e w' =>
    ∃ s, e = .returned (.tuple #[.slice (some ⟨s, 0, none⟩) 3 3, .int .i64 0]) ∧ Rws w' w'.heap.size (some ⟨s, 0, none⟩) [[0, 5, 3], [1152921504606846976, 0, -2], [1152921504606846976, 1152921504606846976, 0]] ∧ Below W.heap.size W w' := by
  refine (close_yes 3 [(0, 1, 5), (1, 2, -2)] A c (by decide +kernel) (by decide +kernel) W (h.take 2)).mono ?_
  rintro e w' ⟨s, rfl, ht, hb⟩
  have := tbl_rws ht
  rw [show tblL 3 (tb [(0, 1, 5), (1, 2, -2)] 3) = [[0, 5, 3], [1152921504606846976, 0, -2], [1152921504606846976, 1152921504606846976, 0]] by decide +kernel] at this
  exact ⟨s, rfl, this, hb⟩
theorem e_solve (h : Rds W W.heap.size A (exB 0)) : Calls Try.prog 18 #[.agg #[.int .i64 3, .slice A 3 c]] W fun e w' =>
    ∃ s, e = .returned (.tuple #[.slice (some ⟨s, 0, none⟩) 3 3, .int .i64 0]) ∧ Nums w' w'.heap.size (some ⟨s, 0, none⟩) [-2, 0, -2] ∧ Below W.heap.size W w' := by
  refine (solve_yes 3 (exB 0) A c (by decide +kernel) (by decide +kernel) W h).mono ?_
  rintro e w' ⟨s, rfl, ht, hb⟩
  have := row_nums ht
  rw [show ((List.range 3).map fun i : Nat => sol 3 (exB 0) i) = [-2, 0, -2] by decide +kernel] at this
  exact ⟨s, rfl, this, hb⟩
theorem e_solve4 (h : Rds W W.heap.size A (exB (-4))) : Calls Try.prog 18 #[.agg #[.int .i64 3, .slice A 3 c]] W fun e w' =>
    e = .returned (.tuple #[.slice none 0 0, .int .i64 60]) ∧ Below W.heap.size W w' :=
  solve_no 3 (exB (-4)) A c (by decide +kernel) (by decide +kernel) W h
theorem e_implied (h : Rds W W.heap.size A (exB 0)) : Calls Try.prog 33 #[.agg #[.int .i64 3, .slice A 3 c], .agg #[.int .i64 0, .int .i64 2, .int .i64 3]] W fun e w' =>
    ∃ s k, e = .returned (.tuple #[.slice (some ⟨s, 0, none⟩) 2 k, .bool true]) ∧ Nums w' w'.heap.size (some ⟨s, 0, none⟩) [0, 1] ∧ Below W.heap.size W w' := by
  refine (implied_yes 3 (exB 0) A c 0 2 3 (by decide +kernel) (by decide +kernel) (by decide +kernel) W h).mono ?_
  intro e w' hp
  obtain ⟨g, k, h1, h2, h3⟩ := hp.some (l := [0, 1]) (by decide +kernel) (exOk 0 (by decide +kernel)) (by decide) (by decide)
  exact ⟨g, k, h1, h2, h3⟩
theorem e_implied2 (h : Rds W W.heap.size A (exB 0)) : Calls Try.prog 33 #[.agg #[.int .i64 3, .slice A 3 c], .agg #[.int .i64 0, .int .i64 2, .int .i64 2]] W fun e w' =>
    e = .returned (.tuple #[.slice none 0 0, .bool false]) ∧ Below W.heap.size W w' := by
  refine (implied_yes 3 (exB 0) A c 0 2 2 (by decide +kernel) (by decide +kernel) (by decide +kernel) W h).mono ?_
  intro e w' hp
  exact hp.none (by decide +kernel)
theorem e_cycle4 (h : Rds W W.heap.size A (exB (-4))) : Calls Try.prog 20 #[.agg #[.int .i64 3, .slice A 3 c]] W fun e w' =>
    ∃ s k, e = .returned (.tuple #[.slice (some ⟨s, 0, none⟩) 3 k, .bool true]) ∧ Nums w' w'.heap.size (some ⟨s, 0, none⟩) [0, 1, 2] ∧ Below W.heap.size W w' := by
  refine (cycle_any 3 (exB (-4)) A c (by decide +kernel) W h).mono ?_
  rintro e w' ⟨v, rfl, ho, hb⟩
  rw [show (if validB 3 (exB (-4)) then cyO (exB (-4)) (3 : Int).toNat else none) = some [0, 1, 2] by decide +kernel] at ho
  rw [show (if validB 3 (exB (-4)) then (cyO (exB (-4)) (3 : Int).toNat).isSome else false) = true by decide +kernel]
  obtain ⟨g, k, rfl, h2, _⟩ := ho
  exact ⟨g, k, rfl, h2, hb⟩
theorem e_cycle (h : Rds W W.heap.size A (exB 0)) : Calls Try.prog 20 #[.agg #[.int .i64 3, .slice A 3 c]] W fun e w' =>
    e = .returned (.tuple #[.slice none 0 0, .bool false]) ∧ Below W.heap.size W w' := by
  refine (cycle_any 3 (exB 0) A c (by decide +kernel) W h).mono ?_
  rintro e w' ⟨v, rfl, ho, hb⟩
  rw [show (if validB 3 (exB 0) then cyO (exB 0) (3 : Int).toNat else none) = none by decide +kernel] at ho
  rw [show (if validB 3 (exB 0) then (cyO (exB 0) (3 : Int).toNat).isSome else false) = false by decide +kernel]
  obtain rfl := ho
  exact ⟨rfl, hb⟩
theorem e_valid (h : Rds W W.heap.size A (exB 0)) : Calls Try.prog 22 #[.agg #[.int .i64 3, .slice A 3 c]] W fun e w' => e = .returned (.bool true) ∧ Below W.heap.size W w' := by
  have := valid_any 3 (exB 0) A c (by decide +kernel) W h
  rw [show validB 3 (exB 0) = true by decide +kernel] at this
  exact this
theorem e_valid17 : Calls Try.prog 22 #[.agg #[.int .i64 17, .slice none 0 0]] W fun e w' => e = .returned (.bool false) ∧ Below W.heap.size W w' := by
  have := valid_any 17 [] none 0 (by decide +kernel) W (.inl rfl)
  rw [show validB 17 [] = false by decide +kernel] at this
  exact this
variable (B : Option Addr) (k : Nat)
theorem e_allowed (h : Rds W W.heap.size A (exB 0)) (h2 : Nums W W.heap.size B [-2, 0, -2]) : Calls Try.prog 27 #[.agg #[.int .i64 3, .slice A 3 c], .slice B 3 k] W fun e w' => e = .returned (.bool true) ∧ Below W.heap.size W w' := by
  have := allowed_any 3 (exB 0) A c [-2, 0, -2] B k (by decide +kernel) (by decide +kernel) W h h2
  rw [show allowedB 3 (exB 0) [-2, 0, -2] = true by decide +kernel] at this
  exact this
theorem e_allowed1 (h : Rds W W.heap.size A (exB 0)) (h2 : Nums W W.heap.size B [-2, 0, -1]) : Calls Try.prog 27 #[.agg #[.int .i64 3, .slice A 3 c], .slice B 3 k] W fun e w' => e = .returned (.bool false) ∧ Below W.heap.size W w' := by
  have := allowed_any 3 (exB 0) A c [-2, 0, -1] B k (by decide +kernel) (by decide +kernel) W h h2
  rw [show allowedB 3 (exB 0) [-2, 0, -1] = false by decide +kernel] at this
  exact this
theorem e_checkCycle4 (h : Rds W W.heap.size A (exB (-4))) (h2 : Nums W W.heap.size B [1, 2, 0]) : Calls Try.prog 29 #[.agg #[.int .i64 3, .slice A 3 c], .slice B 3 k] W fun e w' => e = .returned (.bool true) ∧ Below W.heap.size W w' := by
  have := checkCycle_any 3 (exB (-4)) A c [1, 2, 0] B k (by decide +kernel) (by decide +kernel) W h h2
  rw [show checkCycleB 3 (exB (-4)) [1, 2, 0] = true by decide +kernel] at this
  exact this
theorem e_checkCycle (h : Rds W W.heap.size A (exB 0)) (h2 : Nums W W.heap.size B [0, 1, 2]) : Calls Try.prog 29 #[.agg #[.int .i64 3, .slice A 3 c], .slice B 3 k] W fun e w' => e = .returned (.bool false) ∧ Below W.heap.size W w' := by
  have := checkCycle_any 3 (exB 0) A c [0, 1, 2] B k (by decide +kernel) (by decide +kernel) W h h2
  rw [show checkCycleB 3 (exB 0) [0, 1, 2] = false by decide +kernel] at this
  exact this
theorem e_checkChain3 (h : Rds W W.heap.size A (exB 0)) (h2 : Nums W W.heap.size B [0, 1]) : Calls Try.prog 31 #[.agg #[.int .i64 3, .slice A 3 c], .agg #[.int .i64 0, .int .i64 2, .int .i64 3], .slice B 2 k] W fun e w' => e = .returned (.bool true) ∧ Below W.heap.size W w' := by
  have := checkChain_any 3 (exB 0) A c (0, 2, 3) [0, 1] B k (by decide +kernel) (by decide +kernel) W h h2
  rw [show checkChainB 3 (exB 0) (0, 2, 3) [0, 1] = true by decide +kernel] at this
  exact this
theorem e_checkChain2 (h : Rds W W.heap.size A (exB 0)) (h2 : Nums W W.heap.size B [0, 1]) : Calls Try.prog 31 #[.agg #[.int .i64 3, .slice A 3 c], .agg #[.int .i64 0, .int .i64 2, .int .i64 2], .slice B 2 k] W fun e w' => e = .returned (.bool false) ∧ Below W.heap.size W w' := by
  have := checkChain_any 3 (exB 0) A c (0, 2, 2) [0, 1] B k (by decide +kernel) (by decide +kernel) W h h2
  rw [show checkChainB 3 (exB 0) (0, 2, 2) [0, 1] = false by decide +kernel] at this
  exact this
theorem e_tables (a b : List (List Int)) (hl : a.length ≤ 1000) (hm : b.length ≤ 1000) (h1 : ∀ r ∈ a, r.length ≤ 100000) (h2 : ∀ r ∈ b, r.length ≤ 100000) (ha : Rws W W.heap.size A a) (hb : Rws W W.heap.size B b) :
    Calls Try.prog 24 #[.slice A a.length c, .slice B b.length k] W fun e w' => e = .returned (.bool (decide (a = b))) ∧ Below W.heap.size W w' :=
  (tables_any a b A B c k hl hm h1 h2 W _ ha hb).mono fun e w' h => ⟨h.1, by obtain ⟨n, rfl⟩ := h.2; exact below_drawnN (Below.refl _ _) n⟩
theorem e_ints (a b : List Int) (hl : a.length ≤ 100000) (hm : b.length ≤ 100000) (ha : Nums W W.heap.size A a) (hb : Nums W W.heap.size B b) :
    Calls Try.prog 25 #[.slice A a.length c, .slice B b.length k] W fun e w' => e = .returned (.bool (decide (a = b))) ∧ Below W.heap.size W w' :=
  (ints_any a b A B c k hl hm W _ ha hb).mono fun e w' h => ⟨h.1, by obtain ⟨n, rfl⟩ := h.2; exact below_drawnN (Below.refl _ _) n⟩
end
end Go.Proofs.Ytkeimfkaoianmaa
