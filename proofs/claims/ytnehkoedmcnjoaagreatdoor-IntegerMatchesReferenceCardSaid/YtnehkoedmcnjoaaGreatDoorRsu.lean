/- The reference's sum of two numbers with signs. -/
import Derived.Test.YtnehkoedmcnjoaaGreatDoorRck
import Derived.Test.YtnehkoedmcnjoaaGreatDoorRsg
namespace Go.Proofs.YtnehkoedmcnjoaaGreatDoor
open Go.RowKit

set_option maxRecDepth 100000 in
set_option maxHeartbeats 8000000 in
theorem rsum_any (x y : Bool) (A1 A2 : Option Addr) (L1 c1 m L2 c2 n : Nat) (hm : m < 10 ^ 200) (hn : n < 10 ^ 200) (w : World) (h1 : Dl w w.heap.size A1 L1 c1 (dg m)) (h2 : Dl w w.heap.size A2 L2 c2 (dg n)) :
    Calls Tryz.prog 31 #[.bool x, .slice A1 L1 c1, .bool y, .slice A2 L2 c2] w fun e w' => e = .returned (.tuple #[.string (outT (sgn x m + sgn y n)), .int .i64 (outE (sgn x m + sgn y n))]) ∧ Below w.heap.size w w' := by
  have l1 : L1 ≤ 200 := by rw [h1.len]; exact dg_len_lt hm
  have l2 : L2 ≤ 200 := by rw [h2.len]; exact dg_len_lt hn
  have hmn : m + n < 10 ^ 201 := by rw [Nat.pow_succ]; omega
  have lC : ∀ (W : World) (B : Nat) (A : Option Addr) (L c k : Nat), k ≤ m + n → Dl W B A L c (dg k) → L ≤ 2000 := fun W B A L c k hk h => by
    have a := h.len
    have b := dg_len_lt (Nat.lt_of_le_of_lt hk hmn)
    omega
  have cO := order_any A1 A2 L1 c1 m L2 c2 n (by omega) (by omega) w h1 h2
  have LC := Lib.hid lC
  clear lC hmn hm hn
  obtain ⟨T, hT⟩ : ∃ T, T = outT (sgn x m + sgn y n) := ⟨_, rfl⟩
  obtain ⟨E, hE⟩ : ∃ E, E = outE (sgn x m + sgn y n) := ⟨_, rfl⟩
  rw [← hT, ← hE]
  cases x <;> cases y
  · have e : sgn false (m + n) = sgn false m + sgn false n := sgn_same false m n
    rw [← e] at hT hE
    have cC : ∀ (W : World) (A : Option Addr) (L c : Nat), Dl W W.heap.size A L c (dg (m + n)) → Calls Tryz.prog 34 #[.bool false, .slice A L c] W fun e w' => e = .returned (.tuple #[.string T, .int .i64 E]) ∧ Below W.heap.size W w' := fun W A L c h => by rw [hT, hE]; exact rcheck_any false A L c _ (LC.out W _ A L c _ (by omega) h) W h
    have cP := rplus_any A1 A2 L1 c1 m L2 c2 n (by omega) (by omega) w h1 h2
    have CP := Lib.hid cP; have CC := Lib.hid cC
    clear cP cC cO e hT hE LC l1 l2 h1 h2
    go_enter Tryz.func31, Tryz.ntmps31
    go_wp2_with (first
      | (go_at_call 41; (with_reducible refine CP.out.mono ?_); rintro e w2 ⟨A3, L3, c3, rfl, hD, hF, b2⟩; have HD := Lib.hid hD; clear hD hF)
      | (go_at_call 34; (with_reducible refine (CC.out _ _ _ _ HD.out).mono ?_); rintro e w3 ⟨rfl, b3⟩)
      | fail)
    go_ret2
    exact ⟨rfl, below_step b2 b3⟩
  · by_cases hle : n ≤ m
    · have e : sgn false (m - n) = sgn false m + sgn true n := sgn_less false hle
      rw [← e] at hT hE
      have cC : ∀ (W : World) (A : Option Addr) (L c : Nat), Dl W W.heap.size A L c (dg (m - n)) → Calls Tryz.prog 34 #[.bool false, .slice A L c] W fun e w' => e = .returned (.tuple #[.string T, .int .i64 E]) ∧ Below W.heap.size W w' := fun W A L c h => by rw [hT, hE]; exact rcheck_any false A L c _ (LC.out W _ A L c _ (by omega) h) W h
      have cP : ∀ W, Below w.heap.size w W → Calls Tryz.prog 42 #[.slice A1 L1 c1, .slice A2 L2 c2] W fun e w' => ∃ A L c, e = .returned (.slice A L c) ∧ Dl w' w'.heap.size A L c (dg (m - n)) ∧ Far W.heap.size A ∧ Below W.heap.size W w' := fun W hb => rminus_any A1 A2 L1 c1 m L2 c2 n (by omega) (by omega) (by omega) W (h1.kept hb) (h2.kept hb)
      have CP := Lib.hid cP; have CC := Lib.hid cC
      obtain ⟨v, hv⟩ : ∃ v, v = ordN m n := ⟨_, rfl⟩
      rw [← hv] at cO
      have CO := Lib.hid cO
      have hv0 : (0 : Int) ≤ v := by
        rcases Nat.lt_or_ge n m with k | k
        · rw [hv, ord_gt k]; omega
        · rw [hv, ord_eq (by omega)]; omega
      clear hv hle
      clear cP cC cO e hT hE LC l1 l2 h1 h2
      go_enter Tryz.func31, Tryz.ntmps31
      go_wp2_with (first
        | (go_at_call 47; (with_reducible refine CO.out.mono ?_); rintro e w1 ⟨rfl, b1⟩)
        | (go_at_call 42; (with_reducible refine (CP.out _ b1).mono ?_); rintro e w2 ⟨A3, L3, c3, rfl, hD, hF, b2⟩; have HD := Lib.hid hD; clear hD hF)
        | (go_at_call 34; (with_reducible refine (CC.out _ _ _ _ HD.out).mono ?_); rintro e w3 ⟨rfl, b3⟩)
        | fail)
      go_ret2
      exact ⟨rfl, below_step (below_step b1 b2) b3⟩
    · have hle := Nat.lt_of_not_le hle
      have e : sgn true (n - m) = sgn false m + sgn true n := sgn_more false (Nat.le_of_lt hle)
      rw [← e] at hT hE
      have cC : ∀ (W : World) (A : Option Addr) (L c : Nat), Dl W W.heap.size A L c (dg (n - m)) → Calls Tryz.prog 34 #[.bool true, .slice A L c] W fun e w' => e = .returned (.tuple #[.string T, .int .i64 E]) ∧ Below W.heap.size W w' := fun W A L c h => by rw [hT, hE]; exact rcheck_any true A L c _ (LC.out W _ A L c _ (by omega) h) W h
      have cP : ∀ W, Below w.heap.size w W → Calls Tryz.prog 42 #[.slice A2 L2 c2, .slice A1 L1 c1] W fun e w' => ∃ A L c, e = .returned (.slice A L c) ∧ Dl w' w'.heap.size A L c (dg (n - m)) ∧ Far W.heap.size A ∧ Below W.heap.size W w' := fun W hb => rminus_any A2 A1 L2 c2 n L1 c1 m (by omega) (by omega) (by omega) W (h2.kept hb) (h1.kept hb)
      have CP := Lib.hid cP; have CC := Lib.hid cC
      obtain ⟨v, hv⟩ : ∃ v, v = ordN m n := ⟨_, rfl⟩
      rw [← hv] at cO
      have CO := Lib.hid cO
      have hv0 : ¬ (0 : Int) ≤ v := by rw [hv, ord_lt hle]; omega
      clear hv hle
      clear cP cC cO e hT hE LC l1 l2 h1 h2
      go_enter Tryz.func31, Tryz.ntmps31
      go_wp2_with (first
        | (go_at_call 47; (with_reducible refine CO.out.mono ?_); rintro e w1 ⟨rfl, b1⟩)
        | (go_at_call 42; (with_reducible refine (CP.out _ b1).mono ?_); rintro e w2 ⟨A3, L3, c3, rfl, hD, hF, b2⟩; have HD := Lib.hid hD; clear hD hF)
        | (go_at_call 34; (with_reducible refine (CC.out _ _ _ _ HD.out).mono ?_); rintro e w3 ⟨rfl, b3⟩)
        | fail)
      go_ret2
      exact ⟨rfl, below_step (below_step b1 b2) b3⟩
  · by_cases hle : n ≤ m
    · have e : sgn true (m - n) = sgn true m + sgn false n := sgn_less true hle
      rw [← e] at hT hE
      have cC : ∀ (W : World) (A : Option Addr) (L c : Nat), Dl W W.heap.size A L c (dg (m - n)) → Calls Tryz.prog 34 #[.bool true, .slice A L c] W fun e w' => e = .returned (.tuple #[.string T, .int .i64 E]) ∧ Below W.heap.size W w' := fun W A L c h => by rw [hT, hE]; exact rcheck_any true A L c _ (LC.out W _ A L c _ (by omega) h) W h
      have cP : ∀ W, Below w.heap.size w W → Calls Tryz.prog 42 #[.slice A1 L1 c1, .slice A2 L2 c2] W fun e w' => ∃ A L c, e = .returned (.slice A L c) ∧ Dl w' w'.heap.size A L c (dg (m - n)) ∧ Far W.heap.size A ∧ Below W.heap.size W w' := fun W hb => rminus_any A1 A2 L1 c1 m L2 c2 n (by omega) (by omega) (by omega) W (h1.kept hb) (h2.kept hb)
      have CP := Lib.hid cP; have CC := Lib.hid cC
      obtain ⟨v, hv⟩ : ∃ v, v = ordN m n := ⟨_, rfl⟩
      rw [← hv] at cO
      have CO := Lib.hid cO
      have hv0 : (0 : Int) ≤ v := by
        rcases Nat.lt_or_ge n m with k | k
        · rw [hv, ord_gt k]; omega
        · rw [hv, ord_eq (by omega)]; omega
      clear hv hle
      clear cP cC cO e hT hE LC l1 l2 h1 h2
      go_enter Tryz.func31, Tryz.ntmps31
      go_wp2_with (first
        | (go_at_call 47; (with_reducible refine CO.out.mono ?_); rintro e w1 ⟨rfl, b1⟩)
        | (go_at_call 42; (with_reducible refine (CP.out _ b1).mono ?_); rintro e w2 ⟨A3, L3, c3, rfl, hD, hF, b2⟩; have HD := Lib.hid hD; clear hD hF)
        | (go_at_call 34; (with_reducible refine (CC.out _ _ _ _ HD.out).mono ?_); rintro e w3 ⟨rfl, b3⟩)
        | fail)
      go_ret2
      exact ⟨rfl, below_step (below_step b1 b2) b3⟩
    · have hle := Nat.lt_of_not_le hle
      have e : sgn false (n - m) = sgn true m + sgn false n := sgn_more true (Nat.le_of_lt hle)
      rw [← e] at hT hE
      have cC : ∀ (W : World) (A : Option Addr) (L c : Nat), Dl W W.heap.size A L c (dg (n - m)) → Calls Tryz.prog 34 #[.bool false, .slice A L c] W fun e w' => e = .returned (.tuple #[.string T, .int .i64 E]) ∧ Below W.heap.size W w' := fun W A L c h => by rw [hT, hE]; exact rcheck_any false A L c _ (LC.out W _ A L c _ (by omega) h) W h
      have cP : ∀ W, Below w.heap.size w W → Calls Tryz.prog 42 #[.slice A2 L2 c2, .slice A1 L1 c1] W fun e w' => ∃ A L c, e = .returned (.slice A L c) ∧ Dl w' w'.heap.size A L c (dg (n - m)) ∧ Far W.heap.size A ∧ Below W.heap.size W w' := fun W hb => rminus_any A2 A1 L2 c2 n L1 c1 m (by omega) (by omega) (by omega) W (h2.kept hb) (h1.kept hb)
      have CP := Lib.hid cP; have CC := Lib.hid cC
      obtain ⟨v, hv⟩ : ∃ v, v = ordN m n := ⟨_, rfl⟩
      rw [← hv] at cO
      have CO := Lib.hid cO
      have hv0 : ¬ (0 : Int) ≤ v := by rw [hv, ord_lt hle]; omega
      clear hv hle
      clear cP cC cO e hT hE LC l1 l2 h1 h2
      go_enter Tryz.func31, Tryz.ntmps31
      go_wp2_with (first
        | (go_at_call 47; (with_reducible refine CO.out.mono ?_); rintro e w1 ⟨rfl, b1⟩)
        | (go_at_call 42; (with_reducible refine (CP.out _ b1).mono ?_); rintro e w2 ⟨A3, L3, c3, rfl, hD, hF, b2⟩; have HD := Lib.hid hD; clear hD hF)
        | (go_at_call 34; (with_reducible refine (CC.out _ _ _ _ HD.out).mono ?_); rintro e w3 ⟨rfl, b3⟩)
        | fail)
      go_ret2
      exact ⟨rfl, below_step (below_step b1 b2) b3⟩
  · have e : sgn true (m + n) = sgn true m + sgn true n := sgn_same true m n
    rw [← e] at hT hE
    have cC : ∀ (W : World) (A : Option Addr) (L c : Nat), Dl W W.heap.size A L c (dg (m + n)) → Calls Tryz.prog 34 #[.bool true, .slice A L c] W fun e w' => e = .returned (.tuple #[.string T, .int .i64 E]) ∧ Below W.heap.size W w' := fun W A L c h => by rw [hT, hE]; exact rcheck_any true A L c _ (LC.out W _ A L c _ (by omega) h) W h
    have cP := rplus_any A1 A2 L1 c1 m L2 c2 n (by omega) (by omega) w h1 h2
    have CP := Lib.hid cP; have CC := Lib.hid cC
    clear cP cC cO e hT hE LC l1 l2 h1 h2
    go_enter Tryz.func31, Tryz.ntmps31
    go_wp2_with (first
      | (go_at_call 41; (with_reducible refine CP.out.mono ?_); rintro e w2 ⟨A3, L3, c3, rfl, hD, hF, b2⟩; have HD := Lib.hid hD; clear hD hF)
      | (go_at_call 34; (with_reducible refine (CC.out _ _ _ _ HD.out).mono ?_); rintro e w3 ⟨rfl, b3⟩)
      | fail)
    go_ret2
    exact ⟨rfl, below_step b2 b3⟩
end Go.Proofs.YtnehkoedmcnjoaaGreatDoor
