/- Close and Solve. -/
import Derived.Test.YtkeimfkaoianmaaLen
namespace Go.Proofs.Ytkeimfkaoianmaa
open Go.RowKit

def fineB (N : Int) (bs : List Bn) : Bool := validB N bs && !badB N.toNat bs
theorem fineB_nat {n : Nat} {bs : List Bn} : fineB (n : Int) bs = (validB (n : Int) bs && !badB n bs) := by unfold fineB; rw [Int.toNat_natCast]

set_option maxRecDepth 100000 in
set_option maxHeartbeats 4000000 in
theorem close_yes (n : Nat) (bs : List Bn) (A : Option Addr) (c : Nat) (hf : fineB (n : Int) bs = true) (hl : bs.length ≤ 9223372036854775807) (w : World) (hr : Rds w w.heap.size A bs) :
    Calls Try.prog 16 #[btw n A bs.length c] w fun e w' => ∃ s, e = .returned (.tuple #[tblV s n, .int .i64 0]) ∧ Tbl w' s n (tb bs n) ∧ Below w.heap.size w w' := by
  rw [fineB_nat] at hf
  simp only [Bool.and_eq_true, Bool.not_eq_true'] at hf
  obtain ⟨hv, hb⟩ := hf
  obtain ⟨⟨_, hn⟩, h60, ho⟩ := validB_iff.1 hv
  have hva := fun (W : World) (h : Below w.heap.size w W) => valid_any n bs A c hl W (hr.deep h)
  have hlo := fun (W : World) (h : Below w.heap.size w W) => longest_any n bs A c (by omega) ho h60 W (hr.deep h)
  have hco := fun (s : Nat) (W : World) (h : Tbl W s n (tb bs n)) => contradicts_any s n (tb bs n) (by omega) W h
  rw [hv] at hva
  rw [← badB_neg, hb] at hco
  generalize bs.length = L at *
  have HVA := Lib.hid hva; have HLO := Lib.hid hlo; have HCO := Lib.hid hco
  clear hva hlo hco hv hb ho h60 hr
  unfold btw at *
  go_enter Try.func16, Try.ntmps16
  go_wp2_with (first
    | (go_at_call 22; (with_reducible refine (HVA.out _ (below_alloc _ _)).mono ?_); rintro e w2 ⟨rfl, b2⟩; have r2 := (Row.made w 28 #[.int .i64 (n : Int), .slice A L c]).step b2; obtain ⟨k0, k1, _, _⟩ := r2.two; have B2 := Lib.hid (below_step (below_alloc _ _) b2); clear b2 r2)
    | (go_at_call 39; (with_reducible refine (HLO.out _ B2.out).mono ?_); rintro e w3 ⟨s, rfl, ht, b3⟩; have T3 := Lib.hid ht; have B3 := Lib.hid (below_step B2.out b3); clear ht b3; unfold tblV)
    | (go_at_call 40; (refine (HCO.out s _ T3.out).mono ?_); rintro e wx ⟨rfl, hwx⟩; have hwx := hwx.symm; subst hwx))
  go_ret2
  exact ⟨s, rfl, T3.out, B3.out⟩

set_option maxRecDepth 100000 in
set_option maxHeartbeats 4000000 in
theorem close_no (N : Int) (bs : List Bn) (A : Option Addr) (c : Nat) (hf : fineB N bs = false) (hl : bs.length ≤ 9223372036854775807) (w : World) (hr : Rds w w.heap.size A bs) :
    Calls Try.prog 16 #[btw N A bs.length c] w fun e w' => e = .returned (.tuple #[.slice none 0 0, .int .i64 60]) ∧ Below w.heap.size w w' := by
  have hva := fun (W : World) (h : Below w.heap.size w W) => valid_any N bs A c hl W (hr.deep h)
  by_cases hv : validB N bs = true
  · obtain ⟨⟨h0, hn⟩, h60, ho⟩ := validB_iff.1 hv
    obtain ⟨n, rfl⟩ := Int.eq_ofNat_of_zero_le h0
    rw [fineB_nat, hv, Bool.true_and] at hf
    have hb : badB n bs = true := by simpa using hf
    have hlo := fun (W : World) (h : Below w.heap.size w W) => longest_any n bs A c (by omega) ho h60 W (hr.deep h)
    have hco := fun (s : Nat) (W : World) (h : Tbl W s n (tb bs n)) => contradicts_any s n (tb bs n) (by omega) W h
    rw [hv] at hva
    rw [← badB_neg, hb] at hco
    generalize bs.length = L at *
    have HVA := Lib.hid hva; have HLO := Lib.hid hlo; have HCO := Lib.hid hco
    clear hva hlo hco hv hb ho h60 hr hf
    unfold btw at *
    go_enter Try.func16, Try.ntmps16
    go_wp2_with (first
      | (go_at_call 22; (with_reducible refine (HVA.out _ (below_alloc _ _)).mono ?_); rintro e w2 ⟨rfl, b2⟩; have r2 := (Row.made w 28 #[.int .i64 (n : Int), .slice A L c]).step b2; obtain ⟨k0, k1, _, _⟩ := r2.two; have B2 := Lib.hid (below_step (below_alloc _ _) b2); clear b2 r2)
      | (go_at_call 39; (with_reducible refine (HLO.out _ B2.out).mono ?_); rintro e w3 ⟨s, rfl, ht, b3⟩; have T3 := Lib.hid ht; have B3 := Lib.hid (below_step B2.out b3); clear ht b3; unfold tblV)
      | (go_at_call 40; (refine (HCO.out s _ T3.out).mono ?_); rintro e wx ⟨rfl, hwx⟩; have hwx := hwx.symm; subst hwx))
    go_ret2
    exact ⟨rfl, B3.out⟩
  · have hv' : validB N bs = false := bnot hv
    rw [hv'] at hva
    generalize bs.length = L at *
    have HVA := Lib.hid hva
    clear hva hv hv' hr hf
    unfold btw at *
    go_enter Try.func16, Try.ntmps16
    go_wp2_with (go_at_call 22; (with_reducible refine (HVA.out _ (below_alloc _ _)).mono ?_); rintro e w2 ⟨rfl, b2⟩; have B2 := Lib.hid (below_step (below_alloc _ _) b2); clear b2)
    go_ret2
    exact ⟨rfl, B2.out⟩

/-- The greatest values not above 0, when k rows are in. -/
def solP (bs : List Bn) (n k : Nat) (v : Int) : Int := (List.range k).foldl (fun (a : Int) (u : Nat) => min a (tb bs n (u : Int) v)) 0
def sol (n : Nat) (bs : List Bn) (v : Int) : Int := solP bs n n v
theorem solP_succ (bs : List Bn) (n k : Nat) (v : Int) : solP bs n (k + 1) v = min (solP bs n k v) (tb bs n (k : Int) v) := by unfold solP; rw [List.range_succ, List.foldl_append]; rfl
/-- Rows before k are in, row k up to v. -/
def solM (bs : List Bn) (n k j : Nat) (v : Int) : Int := if v < j then solP bs n (k + 1) v else solP bs n k v
theorem solP_le (bs : List Bn) (n k : Nat) (v : Int) : solP bs n k v ≤ 0 := by
  induction k with
  | zero => exact Int.le_refl _
  | succ k ih => rw [solP_succ]; omega
theorem solP_mem {bs : List Bn} {n k u : Nat} (hu : u < k) (v : Int) : solP bs n k v ≤ tb bs n (u : Int) v := by
  induction k with
  | zero => omega
  | succ k ih =>
    rw [solP_succ]
    rcases Nat.lt_or_ge u k with h | h
    · have := ih h; omega
    · obtain rfl : u = k := by omega
      omega
theorem solP_cases (bs : List Bn) (n k : Nat) (v : Int) : solP bs n k v = 0 ∨ ∃ u : Nat, u < k ∧ solP bs n k v = tb bs n (u : Int) v := by
  induction k with
  | zero => exact .inl rfl
  | succ k ih =>
    rw [solP_succ]
    rcases Int.le_total (solP bs n k v) (tb bs n (k : Int) v) with h | h
    · rw [Int.min_eq_left h]
      rcases ih with e | ⟨u, hu, e⟩
      · exact .inl e
      · exact .inr ⟨u, by omega, e⟩
    · rw [Int.min_eq_right h]; exact .inr ⟨k, by omega, rfl⟩

set_option maxRecDepth 100000 in
set_option maxHeartbeats 4000000 in
theorem solve_yes (n : Nat) (bs : List Bn) (A : Option Addr) (c : Nat) (hf : fineB (n : Int) bs = true) (hl : bs.length ≤ 9223372036854775807) (w : World) (hr : Rds w w.heap.size A bs) :
    Calls Try.prog 18 #[btw n A bs.length c] w fun e w' => ∃ s, e = .returned (.tuple #[.slice (some ⟨s, 0, none⟩) n n, .int .i64 0]) ∧ Row w' s 3 (rowA n (sol n bs)) ∧ Below w.heap.size w w' := by
  have hn : n ≤ 16 := by
    rw [fineB_nat] at hf
    simp only [Bool.and_eq_true] at hf
    have := (validB_iff.1 hf.1).1.2
    omega
  have hcl := fun (W : World) (h : Below w.heap.size w W) => close_yes n bs A c hf hl W (hr.deep h)
  have hmr := fun (W : World) => run_make_row' (P := Try.prog) 22 3 (.int .i64 0) 8 Try.underlying22 int_info rfl .i64 .i64 n (by omega) (by omega) W
  simp only [made_row] at hmr
  generalize bs.length = L at *
  have HCL := Lib.hid hcl
  clear hcl hr hf
  unfold btw at *
  go_enter Try.func18, Try.ntmps18
  go_wp2_with (go_at_call 16; (with_reducible refine (HCL.out _ (below_alloc _ _)).mono ?_); rintro e w2 ⟨s, rfl, ht, b2⟩; have r2 := (Row.made w 28 #[.int .i64 (n : Int), .slice A L c]).step b2; obtain ⟨k0, k1, _, _⟩ := r2.two; have T2 := Lib.hid ht; have B2 := Lib.hid (below_step (below_alloc _ _) b2); clear b2 r2 ht; unfold tblV)
  have tin := T2.out.inside
  have HMR := Lib.hid hmr
  clear hmr k0 k1
  go_loopg [8, 9, 10, 24] n (fun kx s8 s9 s10 s24 wr => ∃ k : Nat, s24 = .int .i64 (k : Int) ∧ k + kx = n ∧ Row wr w2.heap.size 3 (rowA n (solP bs n k)) ∧ Below w2.heap.size w2 wr)
  case atStart => exact ⟨0, rfl, by omega, (show Row (w2.alloc (.cells (rowA n fun _ => 0) 3)) w2.heap.size 3 (rowA n fun _ => 0) from Row.made _ _ _), below_alloc _ _⟩
  case round =>
    obtain ⟨k, rfl, hk, hR, hb⟩ := hrel
    by_cases hlt : k < n
    · have c1 := (T2.out.step hb).cell hlt
      have HR := Lib.hid hR; have HB := Lib.hid hb
      clear hR hb
      go_wp2
      go_loopg [9, 10, 30] n (fun kx s9 s10 s30 wr => ∃ j : Nat, s30 = .int .i64 (j : Int) ∧ j + kx = n ∧ Row wr w2.heap.size 3 (rowA n (solM bs n k j)) ∧ Below w2.heap.size w2 wr)
      case atStart => exact ⟨0, rfl, by omega, by rw [rowA_congr (g := solP bs n k) (fun i _ => by unfold solM; rw [if_neg (by omega)])]; exact HR.out, HB.out⟩
      case round =>
        clear HR HB c1
        obtain ⟨j, rfl, hj, hR, hb⟩ := hrel
        by_cases hjl : j < n
        · have d1 := (T2.out.step hb).val hlt hjl
          have d2 := hR.at (rowA_at _ hjl)
          have d3 := hR.free j
          have ex : solM bs n k j j = solP bs n k j := by unfold solM; rw [if_neg (by omega)]
          rw [ex] at d2
          have hs := solP_succ bs n k j
          obtain ⟨t, ht⟩ : ∃ t, t = tb bs n (k : Int) (j : Int) := ⟨_, rfl⟩
          obtain ⟨p, hp⟩ : ∃ p, p = solP bs n k (j : Int) := ⟨_, rfl⟩
          rw [← ht] at d1 hs
          rw [← hp] at d2 hs
          have em : (if t < p then t else p) = solP bs n (k + 1) j := by rw [hs, Int.min_def]; split <;> split <;> omega
          obtain ⟨q, hq⟩ : ∃ q, q = solP bs n (k + 1) (j : Int) := ⟨_, rfl⟩
          rw [← hq] at em
          have HR := Lib.hid hR; have HB := Lib.hid hb; have HQ := Lib.hid hq
          clear hR hb hs ht hp hq ex
          go_wp2
          go_roundg (n - (j + 1))
          case measure => omega
          case rel =>
            refine ⟨j + 1, by go_num, by omega, ?_, HB.out.setCell (p := ⟨w2.heap.size, j, none⟩) (Nat.le_refl _) _⟩
            have := HR.out.stored j (.int .i64 q)
            rw [rowA_set (g := solM bs n k (j + 1)) hjl (by unfold solM; rw [if_pos (by omega), HQ.out]) (fun i _ hne => by
              unfold solM
              by_cases h : (i : Int) < j
              · rw [if_pos h, if_pos (by omega)]
              · rw [if_neg h, if_neg (by omega)])] at this
            exact this
        · obtain rfl : j = n := by omega
          have HR := Lib.hid hR; have HB := Lib.hid hb
          clear hR hb
          go_wp2
          go_roundg (j - (k + 1))
          case measure => omega
          case rel => exact ⟨k + 1, by go_num, by omega, by rw [rowA_congr (g := solM bs j k j) (fun i hi => by unfold solM; rw [if_pos (by omega)])]; exact HR.out, HB.out⟩
    · obtain rfl : k = n := by omega
      have HR := Lib.hid hR; have HB := Lib.hid hb
      clear hR hb
      go_wp2
      go_ret2
      exact ⟨_, rfl, HR.out, below_step B2.out HB.out⟩

set_option maxRecDepth 100000 in
set_option maxHeartbeats 4000000 in
theorem solve_no (N : Int) (bs : List Bn) (A : Option Addr) (c : Nat) (hf : fineB N bs = false) (hl : bs.length ≤ 9223372036854775807) (w : World) (hr : Rds w w.heap.size A bs) :
    Calls Try.prog 18 #[btw N A bs.length c] w fun e w' => e = .returned (.tuple #[.slice none 0 0, .int .i64 60]) ∧ Below w.heap.size w w' := by
  have hcl := fun (W : World) (h : Below w.heap.size w W) => close_no N bs A c hf hl W (hr.deep h)
  generalize bs.length = L at *
  have HCL := Lib.hid hcl
  clear hcl hr hf
  unfold btw at *
  go_enter Try.func18, Try.ntmps18
  go_wp2_with (go_at_call 16; (with_reducible refine (HCL.out _ (below_alloc _ _)).mono ?_); rintro e w2 ⟨rfl, b2⟩; have B2 := Lib.hid (below_step (below_alloc _ _) b2); clear b2)
  go_ret2
  exact ⟨rfl, B2.out⟩
end Go.Proofs.Ytkeimfkaoianmaa
