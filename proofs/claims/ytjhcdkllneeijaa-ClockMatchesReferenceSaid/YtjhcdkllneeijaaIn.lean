/- in and Inside: how many spells a second is in. -/
import Derived.Test.YtjhcdkllneeijaaChg
namespace Go.Proofs.Ytjhcdkllneeijaa
open Go.RowKit

theorem inN_succ {l : List (Int × Int)} {k : Nat} {x y : Int} (h : l[k]? = some (x, y)) (s : Int) : inN (l.take (k + 1)) s = inN (l.take k) s + (if (decide (x ≤ s) && decide (s < y)) = true then 1 else 0) := by
  unfold inN
  rw [List.take_add_one, h, List.countP_append]
  simp
theorem inN_le (l : List (Int × Int)) (s : Int) : inN l s ≤ l.length := List.countP_le_length

set_option maxRecDepth 100000 in
set_option maxHeartbeats 8000000 in
theorem in_any (l : List (Int × Int)) (hl : l.length ≤ 1000) (A : Option Addr) (c B : Nat) (s : Int) (w : World) (h : Sps w B A l) :
    Calls Try.prog 41 #[.slice A l.length c, .int .i64 s] w fun e w' => e = .returned (.int .i64 (inN l s)) ∧ w' = w := by
  obtain ⟨L, hL⟩ : ∃ L, L = l.length := ⟨_, rfl⟩
  rw [← hL]
  rw [← hL] at hl
  have HL := Lib.hid hL; have HS := Lib.hid h
  clear hL h
  go_enter Try.func41, Try.ntmps41
  go_wp2
  go_loopg [5, 6] L (fun kx s5 s6 wr => ∃ (k n : Nat), s5 = .int .i64 (n : Int) ∧ s6 = .int .i64 (k : Int) ∧ k + kx = L ∧ n ≤ k ∧ Hid (n = inN (l.take k) s) ∧ wr = w)
  case atStart => exact ⟨0, 0, rfl, rfl, by omega, by omega, Lib.hid rfl, rfl⟩
  case round =>
    obtain ⟨k, n, rfl, rfl, hk, hn, I, rfl⟩ := hrel
    by_cases hlt : k < L
    · obtain ⟨⟨x, y⟩, hv⟩ : ∃ y, l[k]? = some y := ⟨l[k]'(by rw [← HL.out]; exact hlt), by simp⟩
      obtain ⟨bb, o, hA, hbb, e0, e1⟩ := HS.out.at hv
      subst hA
      dsimp only at e0 e1
      have HN := Lib.hid (inN_succ hv s)
      clear hv
      by_cases c1 : x ≤ s
      · by_cases c2 : s < y
        · have hi : (decide (x ≤ s) && decide (s < y)) = true := by simp [c1, c2]
          have HI := Lib.hid hi
          clear hi
          go_wp2
          go_roundg (L - (k + 1))
          case measure => omega
          case rel => exact ⟨k + 1, n + 1, by go_num, by go_num, by omega, by omega, Lib.hid (by rw [HN.out, if_pos HI.out, ← I.out]), rfl⟩
        · have HI := Lib.hid (show ¬ (decide (x ≤ s) && decide (s < y)) = true by simp [c1, c2])
          go_wp2
          go_roundg (L - (k + 1))
          case measure => omega
          case rel => exact ⟨k + 1, n, rfl, by go_num, by omega, by omega, Lib.hid (by rw [HN.out, if_neg HI.out, ← I.out]; rfl), rfl⟩
      · have HI := Lib.hid (show ¬ (decide (x ≤ s) && decide (s < y)) = true by rw [decide_eq_false c1]; simp)
        go_wp2
        go_roundg (L - (k + 1))
        case measure => omega
        case rel => exact ⟨k + 1, n, rfl, by go_num, by omega, by omega, Lib.hid (by rw [HN.out, if_neg HI.out, ← I.out]; rfl), rfl⟩
    · have hi : n = inN l s := by rw [I.out, List.take_of_length_le (by rw [← HL.out]; omega)]
      have HI := Lib.hid hi
      clear hi
      go_wp2
      go_ret
      exact ⟨by rw [← HI.out]; rfl, rfl⟩

set_option maxRecDepth 100000 in
set_option maxHeartbeats 8000000 in
theorem inside_any (l : List (Int × Int)) (hl : l.length ≤ 1000) (A : Option Addr) (c B : Nat) (s : Int) (w : World) (h : Sps w B A l) :
    Calls Try.prog 34 #[.slice A l.length c, .int .i64 s] w fun e w' => e = .returned (.int .i64 (inN l s)) ∧ w' = w := by
  obtain ⟨L, hL⟩ : ∃ L, L = l.length := ⟨_, rfl⟩
  rw [← hL]
  rw [← hL] at hl
  have HL := Lib.hid hL; have HS := Lib.hid h
  clear hL h
  go_enter Try.func34, Try.ntmps34
  go_wp2
  go_loopg [5, 6] L (fun kx s5 s6 wr => ∃ (k n : Nat), s5 = .int .i64 (n : Int) ∧ s6 = .int .i64 (k : Int) ∧ k + kx = L ∧ n ≤ k ∧ Hid (n = inN (l.take k) s) ∧ wr = w)
  case atStart => exact ⟨0, 0, rfl, rfl, by omega, by omega, Lib.hid rfl, rfl⟩
  case round =>
    obtain ⟨k, n, rfl, rfl, hk, hn, I, rfl⟩ := hrel
    by_cases hlt : k < L
    · obtain ⟨⟨x, y⟩, hv⟩ : ∃ y, l[k]? = some y := ⟨l[k]'(by rw [← HL.out]; exact hlt), by simp⟩
      obtain ⟨bb, o, hA, hbb, e0, e1⟩ := HS.out.at hv
      subst hA
      dsimp only at e0 e1
      have HN := Lib.hid (inN_succ hv s)
      clear hv
      by_cases c1 : x ≤ s
      · by_cases c2 : s < y
        · have hi : (decide (x ≤ s) && decide (s < y)) = true := by simp [c1, c2]
          have HI := Lib.hid hi
          clear hi
          go_wp2
          go_roundg (L - (k + 1))
          case measure => omega
          case rel => exact ⟨k + 1, n + 1, by go_num, by go_num, by omega, by omega, Lib.hid (by rw [HN.out, if_pos HI.out, ← I.out]), rfl⟩
        · have HI := Lib.hid (show ¬ (decide (x ≤ s) && decide (s < y)) = true by simp [c1, c2])
          go_wp2
          go_roundg (L - (k + 1))
          case measure => omega
          case rel => exact ⟨k + 1, n, rfl, by go_num, by omega, by omega, Lib.hid (by rw [HN.out, if_neg HI.out, ← I.out]; rfl), rfl⟩
      · have HI := Lib.hid (show ¬ (decide (x ≤ s) && decide (s < y)) = true by rw [decide_eq_false c1]; simp)
        go_wp2
        go_roundg (L - (k + 1))
        case measure => omega
        case rel => exact ⟨k + 1, n, rfl, by go_num, by omega, by omega, Lib.hid (by rw [HN.out, if_neg HI.out, ← I.out]; rfl), rfl⟩
    · have hi : n = inN l s := by rw [I.out, List.take_of_length_le (by rw [← HL.out]; omega)]
      have HI := Lib.hid hi
      clear hi
      go_wp2
      go_ret
      exact ⟨by rw [← HI.out]; rfl, rfl⟩
end Go.Proofs.Ytjhcdkllneeijaa
