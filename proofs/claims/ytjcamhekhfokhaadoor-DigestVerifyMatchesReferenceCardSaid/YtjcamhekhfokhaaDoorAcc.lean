/- What the trees' own proofs and extensions are checked to; dialtonelaw02.left and binary. -/
import Derived.Test.YtjcamhekhfokhaaDoorSane
namespace Go.Proofs.YtjcamhekhfokhaaDoor
open Go.RowKit

theorem half_is {n j : Nat} (h1 : 2 ^ j < n) (h2 : n ≤ 2 * 2 ^ j) : half n = 2 ^ j := by
  have hp := Nat.two_pow_pos j
  unfold half
  rw [(Nat.log2_eq_iff (k := j) (by omega)).2 ⟨by omega, by rw [Nat.pow_succ]; omega⟩]
theorem half_same {m n : Nat} (h : 2 ≤ n) (h1 : half n < m) (h2 : m ≤ n) : half m = half n := by
  have := half_ge h
  exact half_is h1 (by unfold half at *; omega)

theorem proof_dig : ∀ (n : Nat) (l : List ByteArray) (i : Nat), l.length ≤ n → ∀ x ∈ proof l i, x.size = 32 := by
  intro n
  induction n with
  | zero => intro l i h x hx; rw [proof_one (by omega)] at hx; simp at hx
  | succ n ih =>
    intro l i h x hx
    by_cases h2 : 2 ≤ l.length
    · have hl := half_lt h2
      have hp := half_pos l.length
      rw [proof_split h2] at hx
      split at hx
      · rcases List.mem_append.1 hx with hx | hx
        · exact ih _ _ (by simp; omega) x hx
        · simp at hx; subst hx; exact root_size _
      · rcases List.mem_append.1 hx with hx | hx
        · exact ih _ _ (by simp; omega) x hx
        · simp at hx; subst hx; exact root_size _
    · rw [proof_one (by omega)] at hx; simp at hx
theorem part_dig : ∀ (n : Nat) (l : List ByteArray) (m : Nat) (b : Bool), l.length ≤ n → 0 < m → m ≤ l.length → ∀ x ∈ part l m b, x.size = 32 := by
  intro n
  induction n with
  | zero => intro l m b h h0 hm; omega
  | succ n ih =>
    intro l m b h h0 hm x hx
    by_cases h1 : m = l.length
    · subst h1; rw [part_full] at hx
      cases b
      · simp at hx; subst hx; exact root_size _
      · simp at hx
    · have h2 : 2 ≤ l.length := by omega
      have hl := half_lt h2
      have hp := half_pos l.length
      rw [part_split h0 (by omega)] at hx
      split at hx
      · rcases List.mem_append.1 hx with hx | hx
        · exact ih _ _ _ (by simp; omega) h0 (by simp; omega) x hx
        · simp at hx; subst hx; exact root_size _
      · rcases List.mem_append.1 hx with hx | hx
        · exact ih _ _ _ (by simp; omega) (by omega) (by simp; omega) x hx
        · simp at hx; subst hx; exact root_size _
theorem proof_accepted : ∀ (n : Nat) (l : List ByteArray) (i : Nat) (s : ByteArray), l.length ≤ n → l[i]? = some s → valueR s (proof l i).reverse l.length i = (root l, true) := by
  intro n
  induction n with
  | zero => intro l i s h hi; obtain rfl : l = [] := List.eq_nil_of_length_eq_zero (by omega); simp at hi
  | succ n ih =>
    intro l i s h hi
    have hil : i < l.length := by
      rcases Nat.lt_or_ge i l.length with hlt | hge
      · exact hlt
      · rw [List.getElem?_eq_none hge] at hi; cases hi
    by_cases h2 : 2 ≤ l.length
    · have hl := half_lt h2
      have hp := half_pos l.length
      have hn1 : ¬ l.length = 1 := by omega
      rw [proof_split h2, root_split h2]
      by_cases hlt : i < half l.length
      · have := ih (l.take (half l.length)) i s (by simp; omega) (by rw [List.getElem?_take_of_lt hlt]; exact hi)
        rw [List.length_take, Nat.min_eq_left (by omega)] at this
        rw [if_pos hlt, List.reverse_append]
        show valueR s (root (l.drop (half l.length)) :: (proof (l.take (half l.length)) i).reverse) l.length i = _
        rw [valueR, if_neg hn1, if_pos hlt, this]
      · have := ih (l.drop (half l.length)) (i - half l.length) s (by simp; omega) (by rw [List.getElem?_drop, show half l.length + (i - half l.length) = i by omega]; exact hi)
        rw [List.length_drop] at this
        rw [if_neg hlt, List.reverse_append]
        show valueR s (root (l.take (half l.length)) :: (proof (l.drop (half l.length)) (i - half l.length)).reverse) l.length i = _
        rw [valueR, if_neg hn1, if_neg hlt, this]
    · rw [proof_one (by omega)]
      match l, h2, hil, hi with
      | [a], _, hil, hi =>
        obtain rfl : i = 0 := by simp at hil; omega
        simp at hi; subst hi
        simp [valueR, root_one]
      | a :: b :: r, h2, _, _ => simp at h2
theorem part_accepted (old : ByteArray) : ∀ (n : Nat) (l : List ByteArray) (m : Nat) (b : Bool), l.length ≤ n → 0 < m → m ≤ l.length → (b = true → old = root (l.take m)) → twoR old (part l m b).reverse m l.length b = (root (l.take m), root l, true) := by
  intro n
  induction n with
  | zero => intro l m b h h0 hm; omega
  | succ n ih =>
    intro l m b h h0 hm ho
    by_cases h1 : m = l.length
    · subst h1
      rw [part_full]
      rw [List.take_length] at ho ⊢
      cases b
      · simp [twoR]
      · simp [twoR, ho rfl]
    · have h2 : 2 ≤ l.length := by omega
      have hl := half_lt h2
      have hp := half_pos l.length
      rw [part_split h0 (by omega), root_split h2]
      have hnb : ¬ (m = l.length ∧ b = true) := fun h => h1 h.1
      by_cases hle : m ≤ half l.length
      · have := ih (l.take (half l.length)) m b (by simp; omega) h0 (by simp; omega) (by rw [List.take_take, Nat.min_eq_left hle]; exact ho)
        rw [List.length_take, Nat.min_eq_left (by omega), List.take_take, Nat.min_eq_left hle] at this
        rw [if_pos hle, List.reverse_append]
        show twoR old (root (l.drop (half l.length)) :: (part (l.take (half l.length)) m b).reverse) m l.length b = _
        rw [twoR, if_neg hnb, if_neg h1, if_pos hle, this]
      · have := ih (l.drop (half l.length)) (m - half l.length) false (by simp; omega) (by omega) (by simp; omega) (fun h => by cases h)
        rw [List.length_drop] at this
        have hs := half_same h2 (by omega) hm
        have hm2 : 2 ≤ (l.take m).length := by simp; omega
        have hlm : (l.take m).length = m := by simp; omega
        rw [if_neg hle, List.reverse_append, root_split hm2, hlm, hs, List.take_take, Nat.min_eq_left (by omega), List.drop_take]
        show twoR old (root (l.take (half l.length)) :: (part (l.drop (half l.length)) (m - half l.length) false).reverse) m l.length b = _
        rw [twoR, if_neg hnb, if_neg h1, if_neg hle, this]

theorem dig_all {p : List ByteArray} (h : ∀ x ∈ p, x.size = 32) : allDig p = true := by
  unfold allDig; simpa using h
/-- Every entry's proof is accepted. -/
theorem proof_ok (l : List ByteArray) (i : Nat) (s : ByteArray) (hi : l[i]? = some s) : verifyB (root l) l.length i s (proof l i) = true := by
  have hil : i < l.length := by
    rcases Nat.lt_or_ge i l.length with hlt | hge
    · exact hlt
    · rw [List.getElem?_eq_none hge] at hi; cases hi
  rw [verifyB, if_pos ⟨by omega, by omega, dig_all (proof_dig _ l i (Nat.le_refl _))⟩]
  have := proof_accepted _ l i s (Nat.le_refl _) hi
  simp [this]
/-- The extension of every beginning is accepted. -/
theorem ext_ok (l : List ByteArray) (m : Nat) (hm : m ≤ l.length) : verifyE (root (l.take m)) m (root l) l.length (extE l m).1 = true := by
  have hr : allDig [root (l.take m), root l] = true := by simp [allDig, root_size]
  rw [extE, if_neg (by omega)]
  by_cases h0 : m = 0
  · subst h0
    rw [if_pos (.inl rfl), verifyE, if_pos ⟨by omega, by omega, hr, rfl⟩]
    simp
  · by_cases h1 : m = l.length
    · rw [if_pos (.inr (by omega)), verifyE, if_pos ⟨by omega, by omega, hr, rfl⟩, if_neg (by omega), if_pos (by omega)]
      subst h1; simp
    · rw [if_neg (by omega), verifyE, if_pos ⟨by omega, by omega, hr, dig_all (part_dig _ l m true (Nat.le_refl _) (by omega) hm)⟩, if_neg (by omega), if_neg (by omega)]
      have := part_accepted (root (l.take m)) _ l m true (Nat.le_refl _) (by omega) hm (fun _ => rfl)
      simp [this]
theorem ext_err (l : List ByteArray) (m : Nat) (hm : m ≤ l.length) : (extE l m).2 = 0 := by
  rw [extE, if_neg (by omega)]; split <;> rfl
theorem ext_dig (l : List ByteArray) (m : Int) : ∀ x ∈ (extE l m).1, x.size = 32 := by
  intro x hx
  rw [extE] at hx
  split at hx
  · simp at hx
  · split at hx
    · simp at hx
    · exact part_dig _ l m.toNat true (Nat.le_refl _) (by omega) (by omega) x hx

set_option maxRecDepth 100000 in
theorem left_any (n : Nat) (h : 2 ≤ n) (hn : n ≤ 4611686018427387904) (w : World) :
    Calls Tryd.prog 38 #[.int .i64 n] w fun e w' => e = .returned (.int .i64 (half n)) ∧ w' = w := by
  go_enter Tryd.func38, Tryd.ntmps38
  go_wp2
  go_loopw [3] (fun v wr => ∃ j k : Nat, k = 2 ^ j ∧ k < n ∧ v = .int .i64 k ∧ wr = w) (fun v _ => n - (intOf v).toNat)
  case atStart => exact ⟨0, 1, rfl, by omega, rfl, rfl⟩
  case round =>
    obtain ⟨j, k, hk, hkn, rfl, rfl⟩ := hrel
    have hkp : 0 < k := by rw [hk]; exact Nat.two_pow_pos j
    obtain ⟨d, hd⟩ : ∃ d, d = n - k := ⟨_, rfl⟩
    have e1 : IntKind.i64.wrap ((n : Int) - (k : Int)) = (d : Int) := by rw [IntWalk.i64_in _ (by omega)]; omega
    have HK := Lib.hid hk
    by_cases hlt : k < d
    · clear hk
      have HD := Lib.hid hd; clear hd
      have e2 : IntKind.i64.wrap (2 * (k : Int)) = ((2 * k : Nat) : Int) := by have := HD.out; rw [IntWalk.i64_in _ (by omega)]; omega
      have j1 : (k : Int) < (d : Int) := by omega
      go_wp2
      have hd := HD.out
      refine ⟨⟨j + 1, 2 * k, by rw [HK.out, Nat.pow_succ, Nat.mul_comm], by omega, by simp⟩, ?_⟩
      simp only [intOf]; omega
    · have hh : half n = k := by rw [hk]; exact half_is (by omega) (by omega)
      have HD := Lib.hid hd; have HH := Lib.hid hh; clear hd hk hh
      have j1 : ¬ (k : Int) < (d : Int) := by omega
      go_wp2
      go_ret
      exact ⟨by rw [HH.out]; rfl, rfl⟩
theorem bitLen_half {x : Nat} (h : 0 < x) : bitLen x = bitLen (x / 2) + 1 := by
  by_cases h1 : x = 1
  · subst h1; rfl
  · have := bitLen_shift (x := x) (k := 1) (by omega)
    rw [show x / 2 ^ 1 = x / 2 from rfl] at this
    omega
theorem bitLen_le (n : Nat) : bitLen n ≤ n := by
  unfold bitLen
  split
  · omega
  · have := Nat.log2_self_le (n := n) (by omega)
    have := Nat.lt_two_pow_self (n := Nat.log2 n)
    omega
set_option maxRecDepth 100000 in
theorem binary_any (n : Nat) (hn : n ≤ 4611686018427387904) (w : World) :
    Calls Tryd.prog 33 #[.int .i64 n] w fun e w' => e = .returned (.int .i64 (bitLen n)) ∧ w' = w := by
  go_enter Tryd.func33, Tryd.ntmps33
  go_wp2
  go_loopw [0, 3] (fun v u wr => ∃ x k : Nat, v = .int .i64 x ∧ u = .int .i64 k ∧ k + bitLen x = bitLen n ∧ x ≤ n ∧ wr = w) (fun v _ _ => (intOf v).toNat)
  case atStart => exact ⟨n, 0, rfl, rfl, by omega, by omega, rfl⟩
  case round =>
    obtain ⟨x, k, rfl, rfl, hb, hx, rfl⟩ := hrel
    by_cases h0 : 0 < x
    · have hs := bitLen_half h0
      have hk : k < 4611686018427387904 := by
        have := bitLen_le n
        omega
      have HB := Lib.hid hb; have HS := Lib.hid hs; clear hb hs
      obtain ⟨y, hy⟩ : ∃ y, y = x / 2 := ⟨_, rfl⟩
      have e1 : IntKind.i64.wrap ((k : Int) + 1) = ((k + 1 : Nat) : Int) := by rw [IntWalk.i64_in _ (by omega)]; omega
      have e2 : (x : Int) / 2 = (y : Int) := by omega
      have j1 : (0 : Int) < (x : Int) := by omega
      have e3 : IntKind.i64.wrap (y : Int) = (y : Int) := by rw [IntWalk.i64_in _ (by omega)]
      have HY := Lib.hid hy; clear hy
      go_wp2
      clear e1 e2 e3
      have hy := HY.out
      have hb := HB.out
      have hs := HS.out
      rw [hs] at hb
      refine ⟨⟨y, k + 1, rfl, by go_num, by rw [hy]; omega, ?_⟩, ?_⟩
      · simp only [hy, and_true]; omega
      simp only [intOf]; omega
    · obtain rfl : x = 0 := by omega
      have HB := Lib.hid hb; clear hb
      go_wp2
      go_ret
      have := HB.out
      rw [show bitLen 0 = 0 from rfl] at this
      exact ⟨by rw [← this]; rfl, rfl⟩
end Go.Proofs.YtjcamhekhfokhaaDoor
