/- The reference's checked: a text, or the error of too many digits. Signs and amounts: plain maths of the reference. No program. The reference's sum of two numbers with signs. -/
import Derived.Test.YtgpncnnlhhmjaaaGreatDoorBd
import Derived.Test.YtgpncnnlhhmjaaaGreatDoorRdv
import Derived.Test.YtgpncnnlhhmjaaaGreatDoorRmt
namespace Go.Proofs.YtgpncnnlhhmjaaaGreatDoor
open Go.RowKit

theorem fits_len (b : Bool) (n L : Nat) (h : L = (dg n).length) : (L ≤ 200) ↔ fits (sgn b n) = true := by
  rw [fits, sgn_abs, decide_eq_true_eq, h]
  exact dg_len n 200
theorem outT_out {z : Int} (h : ¬ fits z = true) : outT z = ⟨#[]⟩ := outT_not (by simpa using h)
theorem outE_out {z : Int} (h : ¬ fits z = true) : outE z = 30 := outE_not (by simpa using h)

set_option maxRecDepth 100000 in
set_option maxHeartbeats 2000000 in
theorem rcheck_any (b : Bool) (A : Option Addr) (L c n : Nat) (m : L ≤ 2000) (w : World) (h : Dl w w.heap.size A L c (dg n)) :
    Calls Tryz.prog 70 #[.bool b, .slice A L c] w fun e w' => e = .returned (.tuple #[.string (outT (sgn b n)), .int .i64 (outE (sgn b n))]) ∧ Below w.heap.size w w' := by
  have cT := reftext_any b A L c n m w h
  have hf := fits_len b n L h.len
  by_cases hL : L ≤ 200
  · rw [outT_fits (hf.1 hL), outE_fits (hf.1 hL)]
    rw [decide_eq_true hL] at cT
    obtain ⟨S, hS⟩ : ∃ S, S = dec (sgn b n) := ⟨_, rfl⟩
    rw [← hS] at cT ⊢
    clear hf hL hS h m
    go_enter Tryz.func70, Tryz.ntmps70
    go_wp2_with (first | (go_at_call 68; (with_reducible refine cT.mono ?_); rintro e w' ⟨rfl, hb⟩) | fail)
    go_ret2
    exact ⟨rfl, hb⟩
  · have hf2 : ¬ fits (sgn b n) = true := fun e => hL (hf.2 e)
    rw [outT_out hf2, outE_out hf2]
    rw [decide_eq_false hL] at cT
    obtain ⟨S, hS⟩ : ∃ S, S = dec (sgn b n) := ⟨_, rfl⟩
    rw [← hS] at cT
    clear hf hL hS h m hf2
    go_enter Tryz.func70, Tryz.ntmps70
    go_wp2_with (first | (go_at_call 68; (with_reducible refine cT.mono ?_); rintro e w' ⟨rfl, hb⟩) | fail)
    go_ret2
    exact ⟨rfl, hb⟩
end Go.Proofs.YtgpncnnlhhmjaaaGreatDoor
namespace Go.Proofs.YtgpncnnlhhmjaaaGreatDoor
open Go

theorem sgn_of (z : Int) : sgn (decide (z < 0)) z.natAbs = z := by
  by_cases h : z < 0
  · rw [decide_eq_true h, sgn, if_pos rfl]; omega
  · rw [decide_eq_false h, sgn, if_neg (by decide)]; omega
theorem sgn_t (n : Nat) : sgn true n = -(n : Int) := rfl
theorem sgn_f (n : Nat) : sgn false n = (n : Int) := rfl
theorem sgn_not (b : Bool) (n : Nat) : sgn (!b) n = -sgn b n := by cases b <;> simp [sgn_t, sgn_f]
theorem sgn_same (b : Bool) (m n : Nat) : sgn b (m + n) = sgn b m + sgn b n := by cases b <;> simp only [sgn_t, sgn_f] <;> omega
theorem sgn_less (b : Bool) {m n : Nat} (h : n ≤ m) : sgn b (m - n) = sgn b m + sgn (!b) n := by cases b <;> simp only [Bool.not_true, Bool.not_false, sgn_t, sgn_f] <;> omega
theorem sgn_more (b : Bool) {m n : Nat} (h : m ≤ n) : sgn (!b) (n - m) = sgn b m + sgn (!b) n := by cases b <;> simp only [Bool.not_true, Bool.not_false, sgn_t, sgn_f] <;> omega
theorem sgn_mul (a b : Bool) (m n : Nat) : sgn (a != b) (m * n) = sgn a m * sgn b n := by
  cases a <;> cases b <;> simp [sgn_t, sgn_f, Int.neg_mul, Int.mul_neg]
theorem ediv_abs {x y q : Int} {r : Nat} (hy : y ≠ 0) (h : (r : Int) + (y.natAbs : Int) * q = x) (hr : r < y.natAbs) : x / y = (if y < 0 then -q else q) ∧ x % y = (r : Int) := by
  have hu := (Int.ediv_emod_unique (a := x) (b := (y.natAbs : Int)) (r := (r : Int)) (q := q) (by omega)).2 ⟨h, by omega, by omega⟩
  by_cases h0 : y < 0
  · have e : y = -(y.natAbs : Int) := by omega
    rw [if_pos h0]
    constructor
    · rw [e, Int.ediv_neg, hu.1]
    · rw [e, Int.emod_neg, hu.2]
  · have e : y = (y.natAbs : Int) := by omega
    rw [if_neg h0]
    constructor
    · rw [e, hu.1]
    · rw [e, hu.2]
theorem abs_pos {y : Int} (hy : y ≠ 0) : 0 < y.natAbs := by omega
theorem amount (m n : Nat) : ((m % n : Nat) : Int) + (n : Int) * ((m / n : Nat) : Int) = (m : Int) := by
  rw [← Int.natCast_mul]
  have := Nat.mod_add_div m n
  omega
theorem if_sgn (y : Int) (q : Nat) : (if y < 0 then -(q : Int) else (q : Int)) = sgn (false != decide (y < 0)) q := by
  by_cases h : y < 0
  · rw [if_pos h, decide_eq_true h]; rfl
  · rw [if_neg h, decide_eq_false h]; rfl
theorem if_sgn' (y : Int) (q : Nat) : (if y < 0 then -(-(q : Int)) else -(q : Int)) = sgn (true != decide (y < 0)) q := by
  by_cases h : y < 0
  · rw [if_pos h, decide_eq_true h]
    show -(-(q : Int)) = (q : Int)
    omega
  · rw [if_neg h, decide_eq_false h]; rfl
theorem div_up {x y : Int} (hy : y ≠ 0) (hx : ¬ x < 0) : sgn (false != decide (y < 0)) (x.natAbs / y.natAbs) = x / y ∧ x % y = ((x.natAbs % y.natAbs : Nat) : Int) := by
  have h := ediv_abs (x := x) (y := y) (q := ((x.natAbs / y.natAbs : Nat) : Int)) (r := x.natAbs % y.natAbs) hy (by rw [amount]; omega) (Nat.mod_lt _ (abs_pos hy))
  rw [if_sgn] at h
  exact ⟨h.1.symm, h.2⟩
theorem div_even {x y : Int} (hy : y ≠ 0) (hx : x < 0) (h0 : x.natAbs % y.natAbs = 0) : sgn (true != decide (y < 0)) (x.natAbs / y.natAbs) = x / y ∧ x % y = 0 := by
  have ha := amount x.natAbs y.natAbs
  rw [h0] at ha
  have h := ediv_abs (x := x) (y := y) (q := -((x.natAbs / y.natAbs : Nat) : Int)) (r := 0) hy (by rw [Int.mul_neg]; omega) (abs_pos hy)
  rw [if_sgn'] at h
  exact ⟨h.1.symm, h.2⟩
theorem div_odd {x y : Int} (hy : y ≠ 0) (hx : x < 0) (h0 : 0 < x.natAbs % y.natAbs) : sgn (true != decide (y < 0)) (x.natAbs / y.natAbs + 1) = x / y ∧ x % y = ((y.natAbs - x.natAbs % y.natAbs : Nat) : Int) := by
  have ha := amount x.natAbs y.natAbs
  have hl := Nat.mod_lt x.natAbs (abs_pos hy)
  have h := ediv_abs (x := x) (y := y) (q := -((x.natAbs / y.natAbs + 1 : Nat) : Int)) (r := y.natAbs - x.natAbs % y.natAbs) hy (by
    rw [Int.mul_neg, Int.natCast_add, Int.mul_add]
    generalize (y.natAbs : Int) * ((x.natAbs / y.natAbs : Nat) : Int) = P at *
    generalize x.natAbs % y.natAbs = R at *
    omega) (by omega)
  rw [if_sgn'] at h
  exact ⟨h.1.symm, h.2⟩
/-- The quotient one further is no greater than the number. -/
theorem quo_le {m n : Nat} (h : 0 < m % n) : m / n + 1 ≤ m := by
  rcases Nat.lt_or_ge n 2 with h1 | h1
  · have : n = 0 ∨ n = 1 := by omega
    rcases this with e | e
    · subst e; rw [Nat.mod_zero] at h; rw [Nat.div_zero]; omega
    · subst e; rw [Nat.mod_one] at h; omega
  · have h2 := Nat.div_le_div_left h1 (by decide) (a := m)
    have h3 : 0 < m := by
      rcases Nat.eq_zero_or_pos m with e | e
      · subst e; rw [Nat.zero_mod] at h; omega
      · exact e
    have h4 : m = 1 → m % n = 1 ∧ m / n = 0 := fun e => by subst e; exact ⟨Nat.mod_eq_of_lt (by omega), Nat.div_eq_of_lt (by omega)⟩
    rcases Nat.lt_or_ge m 2 with h5 | h5
    · have := h4 (by omega); omega
    · omega
/-! ### a number of the machine -/
theorem tmod_pos {m : Int} (h : 0 ≤ m) : m.tmod 10 = ((m.natAbs % 10 : Nat) : Int) := by rw [Int.tmod_eq_emod_of_nonneg h]; omega
theorem tmod_neg {m : Int} (h : m < 0) : m.tmod 10 = -((m.natAbs % 10 : Nat) : Int) := by
  have e : m = -(m.natAbs : Int) := by omega
  have h2 : (-(m.natAbs : Int)).tmod 10 = -((m.natAbs % 10 : Nat) : Int) := by rw [Int.neg_tmod, Int.tmod_eq_emod_of_nonneg (by omega)]; omega
  rw [← e] at h2; exact h2
theorem tdiv_pos {m : Int} (h : 0 ≤ m) : m.tdiv 10 = ((m.natAbs / 10 : Nat) : Int) := by rw [Int.tdiv_eq_ediv_of_nonneg h]; omega
theorem tdiv_neg {m : Int} (h : m < 0) : m.tdiv 10 = -((m.natAbs / 10 : Nat) : Int) := by
  have e : m = -(m.natAbs : Int) := by omega
  have h2 : (-(m.natAbs : Int)).tdiv 10 = -((m.natAbs / 10 : Nat) : Int) := by rw [Int.neg_tdiv, Int.tdiv_eq_ediv_of_nonneg (by omega)]; omega
  rw [← e] at h2; exact h2
/-- The digits that have been taken, and what is left. -/
def FromAt (N m : Nat) (l : List Nat) : Prop := dg N = l ++ dg m
theorem from_start (N : Nat) : FromAt N N [] := by rw [FromAt, List.nil_append]
theorem from_step {N m : Nat} {l : List Nat} (h : FromAt N m l) (h0 : 0 < m) : FromAt N (m / 10) (l ++ [m % 10]) := by
  rw [FromAt, h, dg_pos h0, List.append_assoc]; rfl
theorem from_end {N : Nat} {l : List Nat} (h : FromAt N 0 l) : l = dg N := by rw [h, dg_zero, List.append_nil]
theorem from_len {N m : Nat} {l : List Nat} (h : FromAt N m l) (hN : N < 10 ^ 20) : l.length ≤ 20 := by
  have h1 := congrArg List.length h
  have h2 := dg_len_lt hN
  rw [List.length_append] at h1
  omega
/-! ### a number is read -/
theorem val_take (l : List UInt8) (i : Nat) : val (l.take i) ≤ val l := by
  have h := valA_append 0 (l.take i) (l.drop i)
  rw [List.take_append_drop] at h
  rw [val, val, h]
  exact valA_ge _ _
theorem val_next {l : List UInt8} {i : Nat} {b : UInt8} (h : l[i]? = some b) : val (l.take (i + 1)) = val (l.take i) * 10 + (b.toNat - 48) := by
  rw [List.take_add_one, h]
  exact val_snoc _ _
end Go.Proofs.YtgpncnnlhhmjaaaGreatDoor
namespace Go.Proofs.YtgpncnnlhhmjaaaGreatDoor
open Go.RowKit

set_option maxRecDepth 100000 in
set_option maxHeartbeats 8000000 in
theorem rsum_any (x y : Bool) (A1 A2 : Option Addr) (L1 c1 m L2 c2 n : Nat) (hm : m < 10 ^ 200) (hn : n < 10 ^ 200) (w : World) (h1 : Dl w w.heap.size A1 L1 c1 (dg m)) (h2 : Dl w w.heap.size A2 L2 c2 (dg n)) :
    Calls Tryz.prog 72 #[.bool x, .slice A1 L1 c1, .bool y, .slice A2 L2 c2] w fun e w' => e = .returned (.tuple #[.string (outT (sgn x m + sgn y n)), .int .i64 (outE (sgn x m + sgn y n))]) ∧ Below w.heap.size w w' := by
  have l1 : L1 ≤ 200 := by rw [h1.len]; exact dg_len_lt hm
  have l2 : L2 ≤ 200 := by rw [h2.len]; exact dg_len_lt hn
  have hmn : m + n < 10 ^ 201 := by rw [Nat.pow_succ]; omega
  have lC : ∀ (W : World) (B : Nat) (A : Option Addr) (L c k : Nat), k ≤ m + n → Dl W B A L c (dg k) → L ≤ 2000 := fun W B A L c k hk h => by
    have a := h.len
    have b := dg_len_lt (Nat.lt_of_le_of_lt hk hmn)
    omega
  have cO := order_any A1 A2 L1 c1 m L2 c2 n (by omega) (by omega) w h1 h2
  have LC := Lib.hid lC
  clear lC hmn hm hn
  obtain ⟨T, hT⟩ : ∃ T, T = outT (sgn x m + sgn y n) := ⟨_, rfl⟩
  obtain ⟨E, hE⟩ : ∃ E, E = outE (sgn x m + sgn y n) := ⟨_, rfl⟩
  rw [← hT, ← hE]
  cases x <;> cases y
  · have e : sgn false (m + n) = sgn false m + sgn false n := sgn_same false m n
    rw [← e] at hT hE
    have cC : ∀ (W : World) (A : Option Addr) (L c : Nat), Dl W W.heap.size A L c (dg (m + n)) → Calls Tryz.prog 70 #[.bool false, .slice A L c] W fun e w' => e = .returned (.tuple #[.string T, .int .i64 E]) ∧ Below W.heap.size W w' := fun W A L c h => by rw [hT, hE]; exact rcheck_any false A L c _ (LC.out W _ A L c _ (by omega) h) W h
    have cP := rplus_any A1 A2 L1 c1 m L2 c2 n (by omega) (by omega) w h1 h2
    have CP := Lib.hid cP; have CC := Lib.hid cC
    clear cP cC cO e hT hE LC l1 l2 h1 h2
    go_enter Tryz.func72, Tryz.ntmps72
    go_wp2_with (first
      | (go_at_call 79; (with_reducible refine CP.out.mono ?_); rintro e w2 ⟨A3, L3, c3, rfl, hD, hF, b2⟩; have HD := Lib.hid hD; clear hD hF)
      | (go_at_call 70; (with_reducible refine (CC.out _ _ _ _ HD.out).mono ?_); rintro e w3 ⟨rfl, b3⟩)
      | fail)
    go_ret2
    exact ⟨rfl, below_step b2 b3⟩
  · by_cases hle : n ≤ m
    · have e : sgn false (m - n) = sgn false m + sgn true n := sgn_less false hle
      rw [← e] at hT hE
      have cC : ∀ (W : World) (A : Option Addr) (L c : Nat), Dl W W.heap.size A L c (dg (m - n)) → Calls Tryz.prog 70 #[.bool false, .slice A L c] W fun e w' => e = .returned (.tuple #[.string T, .int .i64 E]) ∧ Below W.heap.size W w' := fun W A L c h => by rw [hT, hE]; exact rcheck_any false A L c _ (LC.out W _ A L c _ (by omega) h) W h
      have cP : ∀ W, Below w.heap.size w W → Calls Tryz.prog 80 #[.slice A1 L1 c1, .slice A2 L2 c2] W fun e w' => ∃ A L c, e = .returned (.slice A L c) ∧ Dl w' w'.heap.size A L c (dg (m - n)) ∧ Far W.heap.size A ∧ Below W.heap.size W w' := fun W hb => rminus_any A1 A2 L1 c1 m L2 c2 n (by omega) (by omega) (by omega) W (h1.kept hb) (h2.kept hb)
      have CP := Lib.hid cP; have CC := Lib.hid cC
      obtain ⟨v, hv⟩ : ∃ v, v = ordN m n := ⟨_, rfl⟩
      rw [← hv] at cO
      have CO := Lib.hid cO
      have hv0 : (0 : Int) ≤ v := by
        rcases Nat.lt_or_ge n m with k | k
        · rw [hv, ord_gt k]; omega
        · rw [hv, ord_eq (by omega)]; omega
      clear hv hle
      clear cP cC cO e hT hE LC l1 l2 h1 h2
      go_enter Tryz.func72, Tryz.ntmps72
      go_wp2_with (first
        | (go_at_call 81; (with_reducible refine CO.out.mono ?_); rintro e w1 ⟨rfl, b1⟩)
        | (go_at_call 80; (with_reducible refine (CP.out _ b1).mono ?_); rintro e w2 ⟨A3, L3, c3, rfl, hD, hF, b2⟩; have HD := Lib.hid hD; clear hD hF)
        | (go_at_call 70; (with_reducible refine (CC.out _ _ _ _ HD.out).mono ?_); rintro e w3 ⟨rfl, b3⟩)
        | fail)
      go_ret2
      exact ⟨rfl, below_step (below_step b1 b2) b3⟩
    · have hle := Nat.lt_of_not_le hle
      have e : sgn true (n - m) = sgn false m + sgn true n := sgn_more false (Nat.le_of_lt hle)
      rw [← e] at hT hE
      have cC : ∀ (W : World) (A : Option Addr) (L c : Nat), Dl W W.heap.size A L c (dg (n - m)) → Calls Tryz.prog 70 #[.bool true, .slice A L c] W fun e w' => e = .returned (.tuple #[.string T, .int .i64 E]) ∧ Below W.heap.size W w' := fun W A L c h => by rw [hT, hE]; exact rcheck_any true A L c _ (LC.out W _ A L c _ (by omega) h) W h
      have cP : ∀ W, Below w.heap.size w W → Calls Tryz.prog 80 #[.slice A2 L2 c2, .slice A1 L1 c1] W fun e w' => ∃ A L c, e = .returned (.slice A L c) ∧ Dl w' w'.heap.size A L c (dg (n - m)) ∧ Far W.heap.size A ∧ Below W.heap.size W w' := fun W hb => rminus_any A2 A1 L2 c2 n L1 c1 m (by omega) (by omega) (by omega) W (h2.kept hb) (h1.kept hb)
      have CP := Lib.hid cP; have CC := Lib.hid cC
      obtain ⟨v, hv⟩ : ∃ v, v = ordN m n := ⟨_, rfl⟩
      rw [← hv] at cO
      have CO := Lib.hid cO
      have hv0 : ¬ (0 : Int) ≤ v := by rw [hv, ord_lt hle]; omega
      clear hv hle
      clear cP cC cO e hT hE LC l1 l2 h1 h2
      go_enter Tryz.func72, Tryz.ntmps72
      go_wp2_with (first
        | (go_at_call 81; (with_reducible refine CO.out.mono ?_); rintro e w1 ⟨rfl, b1⟩)
        | (go_at_call 80; (with_reducible refine (CP.out _ b1).mono ?_); rintro e w2 ⟨A3, L3, c3, rfl, hD, hF, b2⟩; have HD := Lib.hid hD; clear hD hF)
        | (go_at_call 70; (with_reducible refine (CC.out _ _ _ _ HD.out).mono ?_); rintro e w3 ⟨rfl, b3⟩)
        | fail)
      go_ret2
      exact ⟨rfl, below_step (below_step b1 b2) b3⟩
  · by_cases hle : n ≤ m
    · have e : sgn true (m - n) = sgn true m + sgn false n := sgn_less true hle
      rw [← e] at hT hE
      have cC : ∀ (W : World) (A : Option Addr) (L c : Nat), Dl W W.heap.size A L c (dg (m - n)) → Calls Tryz.prog 70 #[.bool true, .slice A L c] W fun e w' => e = .returned (.tuple #[.string T, .int .i64 E]) ∧ Below W.heap.size W w' := fun W A L c h => by rw [hT, hE]; exact rcheck_any true A L c _ (LC.out W _ A L c _ (by omega) h) W h
      have cP : ∀ W, Below w.heap.size w W → Calls Tryz.prog 80 #[.slice A1 L1 c1, .slice A2 L2 c2] W fun e w' => ∃ A L c, e = .returned (.slice A L c) ∧ Dl w' w'.heap.size A L c (dg (m - n)) ∧ Far W.heap.size A ∧ Below W.heap.size W w' := fun W hb => rminus_any A1 A2 L1 c1 m L2 c2 n (by omega) (by omega) (by omega) W (h1.kept hb) (h2.kept hb)
      have CP := Lib.hid cP; have CC := Lib.hid cC
      obtain ⟨v, hv⟩ : ∃ v, v = ordN m n := ⟨_, rfl⟩
      rw [← hv] at cO
      have CO := Lib.hid cO
      have hv0 : (0 : Int) ≤ v := by
        rcases Nat.lt_or_ge n m with k | k
        · rw [hv, ord_gt k]; omega
        · rw [hv, ord_eq (by omega)]; omega
      clear hv hle
      clear cP cC cO e hT hE LC l1 l2 h1 h2
      go_enter Tryz.func72, Tryz.ntmps72
      go_wp2_with (first
        | (go_at_call 81; (with_reducible refine CO.out.mono ?_); rintro e w1 ⟨rfl, b1⟩)
        | (go_at_call 80; (with_reducible refine (CP.out _ b1).mono ?_); rintro e w2 ⟨A3, L3, c3, rfl, hD, hF, b2⟩; have HD := Lib.hid hD; clear hD hF)
        | (go_at_call 70; (with_reducible refine (CC.out _ _ _ _ HD.out).mono ?_); rintro e w3 ⟨rfl, b3⟩)
        | fail)
      go_ret2
      exact ⟨rfl, below_step (below_step b1 b2) b3⟩
    · have hle := Nat.lt_of_not_le hle
      have e : sgn false (n - m) = sgn true m + sgn false n := sgn_more true (Nat.le_of_lt hle)
      rw [← e] at hT hE
      have cC : ∀ (W : World) (A : Option Addr) (L c : Nat), Dl W W.heap.size A L c (dg (n - m)) → Calls Tryz.prog 70 #[.bool false, .slice A L c] W fun e w' => e = .returned (.tuple #[.string T, .int .i64 E]) ∧ Below W.heap.size W w' := fun W A L c h => by rw [hT, hE]; exact rcheck_any false A L c _ (LC.out W _ A L c _ (by omega) h) W h
      have cP : ∀ W, Below w.heap.size w W → Calls Tryz.prog 80 #[.slice A2 L2 c2, .slice A1 L1 c1] W fun e w' => ∃ A L c, e = .returned (.slice A L c) ∧ Dl w' w'.heap.size A L c (dg (n - m)) ∧ Far W.heap.size A ∧ Below W.heap.size W w' := fun W hb => rminus_any A2 A1 L2 c2 n L1 c1 m (by omega) (by omega) (by omega) W (h2.kept hb) (h1.kept hb)
      have CP := Lib.hid cP; have CC := Lib.hid cC
      obtain ⟨v, hv⟩ : ∃ v, v = ordN m n := ⟨_, rfl⟩
      rw [← hv] at cO
      have CO := Lib.hid cO
      have hv0 : ¬ (0 : Int) ≤ v := by rw [hv, ord_lt hle]; omega
      clear hv hle
      clear cP cC cO e hT hE LC l1 l2 h1 h2
      go_enter Tryz.func72, Tryz.ntmps72
      go_wp2_with (first
        | (go_at_call 81; (with_reducible refine CO.out.mono ?_); rintro e w1 ⟨rfl, b1⟩)
        | (go_at_call 80; (with_reducible refine (CP.out _ b1).mono ?_); rintro e w2 ⟨A3, L3, c3, rfl, hD, hF, b2⟩; have HD := Lib.hid hD; clear hD hF)
        | (go_at_call 70; (with_reducible refine (CC.out _ _ _ _ HD.out).mono ?_); rintro e w3 ⟨rfl, b3⟩)
        | fail)
      go_ret2
      exact ⟨rfl, below_step (below_step b1 b2) b3⟩
  · have e : sgn true (m + n) = sgn true m + sgn true n := sgn_same true m n
    rw [← e] at hT hE
    have cC : ∀ (W : World) (A : Option Addr) (L c : Nat), Dl W W.heap.size A L c (dg (m + n)) → Calls Tryz.prog 70 #[.bool true, .slice A L c] W fun e w' => e = .returned (.tuple #[.string T, .int .i64 E]) ∧ Below W.heap.size W w' := fun W A L c h => by rw [hT, hE]; exact rcheck_any true A L c _ (LC.out W _ A L c _ (by omega) h) W h
    have cP := rplus_any A1 A2 L1 c1 m L2 c2 n (by omega) (by omega) w h1 h2
    have CP := Lib.hid cP; have CC := Lib.hid cC
    clear cP cC cO e hT hE LC l1 l2 h1 h2
    go_enter Tryz.func72, Tryz.ntmps72
    go_wp2_with (first
      | (go_at_call 79; (with_reducible refine CP.out.mono ?_); rintro e w2 ⟨A3, L3, c3, rfl, hD, hF, b2⟩; have HD := Lib.hid hD; clear hD hF)
      | (go_at_call 70; (with_reducible refine (CC.out _ _ _ _ HD.out).mono ?_); rintro e w3 ⟨rfl, b3⟩)
      | fail)
    go_ret2
    exact ⟨rfl, below_step b2 b3⟩
end Go.Proofs.YtgpncnnlhhmjaaaGreatDoor
