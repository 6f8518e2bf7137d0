/- bits. -/
import Derived.Test.YtiglkecmamnphaaRf
namespace Go.Proofs.Ytiglkecmamnphaa
open Go.RowKit Go.Sort Go.Lib

def bitB (c : Int) (n : Nat) : Bool := decide (pk c 4096 / 2 ^ n % 2 = 1)
def bitsK (c : Int) (k : Nat) : List Int := (((List.range k).filter (bitB c)).take 3).map Int.ofNat
theorem bits_succ (c : Int) (k : Nat) : bitsK c (k + 1) = if bitB c k = true ∧ (bitsK c k).length < 3 then bitsK c k ++ [(k : Int)] else bitsK c k := by
  unfold bitsK
  rw [List.range_succ, List.filter_append]
  cases hb : bitB c k with
  | false => simp [hb]
  | true =>
    have : [k].filter (bitB c) = [k] := by simp [hb]
    rw [this]
    generalize (List.range k).filter (bitB c) = F
    by_cases h : F.length < 3
    · rw [if_pos ⟨rfl, by rw [List.length_map, List.length_take]; omega⟩, List.take_of_length_le (by simp; omega), List.take_of_length_le (by omega)]
      simp
    · rw [if_neg (by rw [List.length_map, List.length_take]; omega), List.take_append_of_le_length (by omega)]
theorem bits_len (c : Int) (k : Nat) : (bitsK c k).length ≤ 3 := by
  unfold bitsK
  rw [List.length_map, List.length_take]
  omega
theorem bits_stop (c : Int) (k : Nat) (h : (bitsK c k).length = 3) : ∀ m, bitsK c (k + m) = bitsK c k
  | 0 => rfl
  | m + 1 => by
    have e := bits_stop c k h m
    rw [show k + (m + 1) = (k + m) + 1 by omega, bits_succ, e, if_neg (by omega)]
theorem bits_all (c : Int) (k B : Nat) (hk : k ≤ B) (h : (bitsK c k).length = 3) : bitsK c B = bitsK c k := by
  have := bits_stop c k h (B - k)
  rwa [show k + (B - k) = B by omega] at this

theorem one_new (W : World) (a : Value) (t : TypeId) : ∀ (j : Nat) (u : Value), [a][j]? = some u → (W.alloc (Obj.cells #[a] t)).cell? ((⟨W.heap.size, 0, none⟩ : Addr).add j) = some u := by
  intro j u hj
  have e0 : (⟨W.heap.size, 0, none⟩ : Addr).add j = ⟨W.heap.size, j, none⟩ := by unfold Addr.add; split <;> simp_all
  rw [e0]
  exact (Row.made W t #[a]).at (by simpa using hj)

set_option maxRecDepth 100000 in
set_option maxHeartbeats 8000000 in
theorem bits_any (c : Int) (B : Nat) (hc : In64 c) (hB : B ≤ 8) (w : World) :
    Calls Try.prog 29 #[.int .i64 c, .int .i64 (B : Int)] w fun e w' => ∃ v, e = .returned v ∧ w'.ownsRow w.heap.size 3 1 v (bitsK c B).length (iC (bitsK c B)) ∧ Below w.heap.size w w' := by
  have pa := fun (W : World) => rpick_any c 4096 hc.1 hc.2 (by omega) (by omega) W
  have hr := pk_range (c := c) (n := 4096) (by omega)
  have hbb : ∀ n, bitB c n = decide (pk c 4096 / 2 ^ n % 2 = 1) := fun n => rfl
  have hbs := bits_succ c
  have hbl := bits_len c
  have hba := bits_all c
  obtain ⟨i0, hi0, hz0, hz1, hz2⟩ := info_parts num_info
  generalize pk c 4096 = P at *
  have PA := Lib.hid pa; have HBB := Lib.hid hbb; have HBS := Lib.hid hbs; have HBL := Lib.hid hbl; have HBA := Lib.hid hba; have HZ := Lib.hid (And.intro hi0 (And.intro hz0 (And.intro hz1 hz2)))
  clear pa hbb hbs hbl hba hc hi0 hz0 hz1 hz2
  go_enter Try.func29, Try.ntmps29
  go_wp2
  go_loopg [5, 6] B (fun kx s5 s6 wr => ∃ k : Nat, s6 = .int .i64 (k : Int) ∧ k + kx = B ∧ wr.ownsRow w.heap.size 3 1 s5 (bitsK c k).length (iC (bitsK c k)) ∧ Below w.heap.size w wr)
  case atStart => exact ⟨0, rfl, by omega, World.ownsRow_nil _ _ _ _, Below.refl _ _⟩
  case round =>
    obtain ⟨k, rfl, hk, ho, hb⟩ := hrel
    obtain ⟨A, m, cp, rfl⟩ := own_form ho
    have hm : m = (bitsK c k).length := by
      rcases ho.2 with ⟨e, h0⟩ | ⟨g, cap, cur, e, _⟩
      · cases e; exact h0.symm
      · cases e; rfl
    subst hm
    have hl := HBL.out k
    have hs := HBS.out k
    have hal := HBA.out k B (by omega)
    rw [HBB.out k] at hs
    have hBB : k = B → bitsK c B = bitsK c k := fun e => by rw [e]
    generalize bitsK c k = F at *
    obtain ⟨n, hn⟩ : ∃ n, n = F.length := ⟨_, rfl⟩
    rw [← hn] at hs hl hal ho ⊢
    have HO := Lib.hid ho; have HB := Lib.hid hb; have HN := Lib.hid hn; have HS := Lib.hid hs; have HAL := Lib.hid hal; have HZ2 := Lib.hid hBB
    clear hBB ho hb hn hs hal
    by_cases hlt : k < B
    · by_cases hn3 : n < 3
      · obtain ⟨d, hd⟩ : ∃ d, d = decide (P / 2 ^ k % 2 = 1) := ⟨_, rfl⟩
        have hs := HS.out
        rw [← hd] at hs
        have d1 : ((P / 2 ^ k).tmod 2 == 1) = d := by
          rw [hd, Int.tmod_eq_emod_of_nonneg (Int.ediv_nonneg hr.1 (by exact Int.le_of_lt (Int.pow_pos (by omega))))]
          by_cases h : P / 2 ^ k % 2 = 1 <;> simp [h]
        have HS2 := Lib.hid hs
        clear hs hd HS HBB
        cases d
        · go_wp2_with (first | (go_at_call 27; (with_reducible refine (PA.out _).mono ?_); rintro e w3 ⟨rfl, rfl⟩) | fail)
          go_roundg (B - (k + 1))
          case measure => omega
          case rel => exact ⟨k + 1, by go_num, by omega, by rw [HS2.out, if_neg (by simp), ← HN.out]; exact HO.out, HB.out⟩
        · go_wp2_with (first
            | (go_at_call 27; (with_reducible refine (PA.out _).mono ?_); rintro e w3 ⟨rfl, rfl⟩)
            | (at_builtin; refine wpList_append_lies _ rfl _ _ 49 rfl w.heap.size 3 i0 (.int .i64 0) 1 8 Try.underlying49 HZ.out.1 HZ.out.2.1 HZ.out.2.2.1 HZ.out.2.2.2 rfl (by decide) _ _ _ rfl (HO.out.alloc _) ⟨w3.heap.size, 0, none⟩ 1 1 [.int .i64 (k : Int)] rfl rfl (one_new _ _ _) (by simp [Value.oneCell']) (by omega) (by unfold maxLen; omega) (by omega) (by simp; exact Nat.le_succ_of_le HB.out.size) _ rfl ?_; intro g7 c7 w7 o7 g7' a7 l7; have O7 := Lib.hid o7; have B7 := Lib.hid (keep_grown (keep_alloc HB.out _) g7' (HO.out.alloc _)); clear o7 g7' a7 l7)
            | fail)
          go_roundg (B - (k + 1))
          case measure => omega
          case rel =>
            refine ⟨k + 1, by go_num, by omega, ?_, B7.out⟩
            rw [HS2.out, if_pos ⟨by first | rfl | trivial, hn3⟩, List.length_append, ← HN.out]
            have := O7.out
            simpa [iC] using this
      · have hn3' : n = 3 := by omega
        subst hn3'
        go_wp2
        go_ret
        exact ⟨_, rfl, by rw [HAL.out (by first | rfl | trivial), ← HN.out]; exact HO.out, HB.out⟩
    · have hkB : k = B := by omega
      subst hkB
      go_wp2
      go_ret
      exact ⟨_, rfl, by rw [HZ2.out (by first | rfl | trivial), ← HN.out]; exact HO.out, HB.out⟩
end Go.Proofs.Ytiglkecmamnphaa
