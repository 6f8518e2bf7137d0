/- The number of a number's binary digits, as math/bits counts it; the first half. -/
import Derived.Test.YtjcamhekhfokhaaDoorTree
import Derived.Deep.Cut
import Derived.OwnWalk
namespace Go.Proofs.YtjcamhekhfokhaaDoor
open Go.RowKit

def bitLen (x : Nat) : Nat := if x = 0 then 0 else Nat.log2 x + 1
theorem bitLen_shift {x k : Nat} (h : 2 ^ k ≤ x) : bitLen x = k + bitLen (x / 2 ^ k) := by
  have hp := Nat.two_pow_pos k
  have hx : x ≠ 0 := by omega
  have hd : x / 2 ^ k ≠ 0 := by have := Nat.div_pos h hp; omega
  unfold bitLen
  rw [if_neg hx, if_neg hd]
  have h1 := Nat.log2_self_le hd
  have h2 := Nat.lt_log2_self (n := x / 2 ^ k)
  have e : x.log2 = k + (x / 2 ^ k).log2 := by
    rw [Nat.log2_eq_iff hx]
    refine ⟨?_, ?_⟩
    · rw [Nat.pow_add, Nat.mul_comm]; exact (Nat.le_div_iff_mul_le hp).1 h1
    · rw [Nat.add_assoc, Nat.pow_add, Nat.mul_comm]; exact (Nat.div_lt_iff_lt_mul hp).1 h2
  omega
def lenTab : ByteArray := { data := (((([0, 1, 2, 2, 3, 3, 3, 3, 4, 4, 4, 4, 4, 4, 4, 4] : List UInt8) ++ List.replicate 16 5 ++ List.replicate 32 6).append (List.replicate 64 7)).append ((List.replicate 64 8).append (List.replicate 64 8))).toArray }
theorem lenTab_at (i : Nat) (h : i < 256) : (lenTab.data.toList[i]?).map (·.toNat) = some (bitLen i) := by
  have : ∀ j : Fin 256, (lenTab.data.toList[j.val]?).map (·.toNat) = some (bitLen j.val) := by decide +kernel
  exact this ⟨i, h⟩
theorem wpList_index_str {P : Program} {ops : Array Oper} {rest : List Oper} {o : Oper} {a : Act} {w : World} {Q : Exit → Act → World → Prop} (hgd : o.guard = none) (ty : TypeId) (x y : Operand) (ho : o.op = .index ty x y)
    (s : ByteArray) (hx : a.eval x = .string s) (k : IntKind) (i : Int) (hy : a.eval y = .int k i) (ht : P.underlying ty = some .string) (h0 : 0 ≤ i) (u : Nat) (hu : (s.data.toList[i.toNat]?).map (·.toNat) = some u)
    (h : wpList P ops Q rest (a.put o.dst (.int .u8 (u : Int))) w) : wpList P ops Q (o :: rest) a w := by
  refine wpList_plain hgd fun _ hK => ?_
  have hlt : i.toNat < s.size := by
    rcases Nat.lt_or_ge i.toNat s.size with q | q
    · exact q
    · rw [List.getElem?_eq_none (by simpa using q)] at hu; cases hu
  have hget : (s[i.toNat]'hlt).toNat = u := by
    rw [List.getElem?_eq_getElem (by simpa using hlt)] at hu
    simp only [Option.map_some, Option.some.injEq] at hu
    exact hu
  unfold Oper.wp execOp
  simp only [ho, hx, hy, Sem.run_bind, run_index_string _ _ _ _ _ ht, dif_pos (show 0 ≤ i ∧ i < s.size by omega), hget]
  exact hK _ _ h

theorem bitLen_small {x : Nat} (h : x < 256) : bitLen x ≤ 8 := by
  have : ∀ j : Fin 256, bitLen j.val ≤ 8 := by decide +kernel
  exact this ⟨x, h⟩
theorem ret_i64 {a b : Int} (h : a = b) : Ending.returned (.int .i64 a) = .returned (.int .i64 b) := by rw [h]
theorem two_wraps (k b c : Nat) (hk : k ≤ 56) (hb : b ≤ 8) (hc : c = k + b) : wrap64 ((k : Int) + wrap64 (b : Int)) = (c : Int) := by
  have e1 : wrap64 (b : Int) = (b : Int) := IntWalk.wrap64_in _ (by omega)
  rw [e1, IntWalk.wrap64_in _ (by omega)]; omega
theorem toNat_div (x y : Int) (M : Nat) (h0 : 0 ≤ x) (hy : y = x / (M : Int)) : y.toNat = x.toNat / M := by
  obtain ⟨n, rfl⟩ := Int.eq_ofNat_of_zero_le h0
  rw [hy, Int.toNat_natCast, ← Int.natCast_ediv, Int.toNat_natCast]
theorem len_fin (k M : Nat) (x y : Int) (hM : M = 2 ^ k) (hk64 : k ≤ 56) (h0 : 0 ≤ x) (hk : (M : Int) ≤ x) (hy : y = x / (M : Int)) (h256 : y < 256) : wrap64 ((k : Int) + wrap64 (bitLen y.toNat : Int)) = (bitLen x.toNat : Int) := by
  have hb := bitLen_small (x := y.toNat) (by clear hM; omega)
  have e := toNat_div x y M h0 hy
  have hs : bitLen x.toNat = k + bitLen (x.toNat / 2 ^ k) := bitLen_shift (by rw [← hM]; clear hM e; omega)
  rw [← hM, ← e] at hs
  exact two_wraps k _ _ hk64 hb hs
theorem len_fin0 (x : Int) (h0 : 0 ≤ x) (h256 : x < 256) : wrap64 (wrap64 (bitLen x.toNat : Int)) = (bitLen x.toNat : Int) := by
  have hb := bitLen_small (x := x.toNat) (by omega)
  have e1 : wrap64 (bitLen x.toNat : Int) = (bitLen x.toNat : Int) := IntWalk.wrap64_in _ (by omega)
  rw [e1, e1]

set_option maxRecDepth 100000 in
theorem len64_any (x : Int) (h0 : 0 ≤ x) (hx : x < 9223372036854775808) (w : World) :
    Calls Tryd.prog 65 #[.int .u64 x] w fun e w' => e = .returned (.int .i64 (bitLen x.toNat : Int)) ∧ w = w' := by
  go_enter Tryd.func65, Tryd.ntmps65
  go_upto_region 10 with (fail)
  all_goals
    go_wp2_with ((with_reducible refine wpList_index_str (o := ⟨some 22, _, _, _, _, _⟩) rfl 9 _ (.tmp 21) rfl lenTab ?_ .u8 ?_ ?_ Tryd.underlying9 ?_ ?_ ?_ ?_); exact rfl; rotate_left; exact rfl; omega; rotate_left; (first | exact lenTab_at (x / 4294967296 / 65536 / 256).toNat (by omega) | exact lenTab_at (x / 4294967296 / 65536).toNat (by omega) | exact lenTab_at (x / 4294967296 / 256).toNat (by omega) | exact lenTab_at (x / 4294967296).toNat (by omega) | exact lenTab_at (x / 65536 / 256).toNat (by omega) | exact lenTab_at (x / 65536).toNat (by omega) | exact lenTab_at (x / 256).toNat (by omega) | exact lenTab_at (x).toNat (by omega)))
  all_goals go_ret
  · exact ⟨ret_i64 (len_fin 56 72057594037927936 _ _ (by decide) (by decide) h0 (by omega) (by omega) (by omega)), rfl⟩
  · exact ⟨ret_i64 (len_fin 48 281474976710656 _ _ (by decide) (by decide) h0 (by omega) (by omega) (by omega)), rfl⟩
  · exact ⟨ret_i64 (len_fin 40 1099511627776 _ _ (by decide) (by decide) h0 (by omega) (by omega) (by omega)), rfl⟩
  · exact ⟨ret_i64 (len_fin 32 4294967296 _ _ (by decide) (by decide) h0 (by omega) (by omega) (by omega)), rfl⟩
  · exact ⟨ret_i64 (len_fin 24 16777216 _ _ (by decide) (by decide) h0 (by omega) (by omega) (by omega)), rfl⟩
  · exact ⟨ret_i64 (len_fin 16 65536 _ _ (by decide) (by decide) h0 (by omega) (by omega) (by omega)), rfl⟩
  · exact ⟨ret_i64 (len_fin 8 256 _ _ (by decide) (by decide) h0 (by omega) (by omega) (by omega)), rfl⟩
  · exact ⟨ret_i64 (len_fin0 _ h0 (by omega)), rfl⟩
theorem len_any (x : Int) (h0 : 0 ≤ x) (hx : x < 9223372036854775808) (w : World) :
    Calls Tryd.prog 59 #[.int .u64 x] w fun e w' => e = .returned (.int .i64 (bitLen x.toNat : Int)) ∧ w = w' := by
  go_enter Tryd.func59, Tryd.ntmps59
  go_wp2_with (go_at_call 65; refine (len64_any x h0 hx _).mono ?_; rintro e w' ⟨rfl, rfl⟩)
  go_ret
  exact ⟨rfl, rfl⟩
theorem half_bit {n : Nat} (h : 2 ≤ n) : bitLen (n - 1) = Nat.log2 (n - 1) + 1 := by unfold bitLen; rw [if_neg (by omega)]
theorem half_log {n : Nat} (h : 2 ≤ n) (hn : n ≤ 9223372036854775807) : Nat.log2 (n - 1) ≤ 62 := by
  have h1 := Nat.log2_self_le (n := n - 1) (by omega)
  rcases Nat.lt_or_ge 62 (Nat.log2 (n - 1)) with q | q
  · have h2 := Nat.pow_le_pow_right (n := 2) (by decide) (show 63 ≤ Nat.log2 (n - 1) by omega)
    have h3 : (2 : Nat) ^ 63 = 9223372036854775808 := by decide
    omega
  · exact q
theorem first_any (n : Nat) (h : 2 ≤ n) (hn : n ≤ 9223372036854775807) (w : World) :
    Calls Tryd.prog 47 #[.int .i64 (n : Int)] w fun e w' => e = .returned (.int .i64 (half n : Int)) ∧ w = w' := by
  obtain ⟨q, hq⟩ : ∃ q, q = Nat.log2 (n - 1) := ⟨_, rfl⟩
  have kq : q ≤ 62 := by rw [hq]; exact half_log h hn
  have e1 : bitLen ((n : Int) - 1).toNat = q + 1 := by rw [show ((n : Int) - 1).toNat = n - 1 by omega, half_bit h, hq]
  have e2 : half n = 2 ^ q := by rw [half, hq]
  have hb : (2 : Nat) ^ q ≤ 4611686018427387904 := by
    have := Nat.pow_le_pow_right (n := 2) (by decide) kq
    simpa using this
  have E1 := Lib.hid e1; have E2 := Lib.hid e2; have HB := Lib.hid hb; clear e1 e2 hq hb
  go_enter Tryd.func47, Tryd.ntmps47
  go_wp2_with (go_at_call 59; refine (len_any _ (by omega) (by omega) _).mono ?_; rintro e w' ⟨rfl, rfl⟩; rw [E1.out])
  go_ret
  refine ⟨ret_i64 ?_, rfl⟩
  have c : ((2 ^ q : Nat) : Int) = (2 : Int) ^ q := by rw [Int.natCast_pow]; rfl
  have hb := HB.out
  rw [E2.out, ← c]
  generalize 2 ^ q = p at *
  exact IntWalk.wrap64_in _ (by omega)
theorem half_le_pow {n d : Nat} (h : 2 ≤ n) (hn : n ≤ 2 ^ (d + 1)) : half n ≤ 2 ^ d := by
  have hl := half_lt h
  unfold half at *
  have : (n - 1).log2 < d + 1 := (Nat.pow_lt_pow_iff_right (a := 2) (by decide)).1 (by omega)
  exact Nat.pow_le_pow_right (by decide) (by omega)
theorem proof_depth : ∀ (d : Nat) (l : List ByteArray) (i : Nat), l.length ≤ 2 ^ d → (proof l i).length ≤ d
  | 0, l, i, h => by rw [proof_one (by simpa using h)]; simp
  | d + 1, l, i, h => by
    by_cases h1 : l.length ≤ 1
    · rw [proof_one h1]; simp
    · have h2 : 2 ≤ l.length := by omega
      have hk := half_le_pow h2 h
      have hg := half_ge h2
      rw [proof_split h2]
      split
      · have := proof_depth d (l.take (half l.length)) i (by simp; omega)
        simp; omega
      · have := proof_depth d (l.drop (half l.length)) (i - half l.length) (by simp; omega)
        simp; omega
theorem lt_bitLen (n : Nat) : n < 2 ^ bitLen n := by
  unfold bitLen
  split
  · subst_vars; decide
  · exact Nat.lt_log2_self
theorem proof_short (l : List ByteArray) (i : Nat) : (proof l i).length ≤ bitLen l.length := proof_depth _ l i (Nat.le_of_lt (lt_bitLen _))
theorem proof_small (l : List ByteArray) (i : Nat) (h : l.length ≤ 1000) : (proof l i).length ≤ 10 := proof_depth 10 l i (by omega)

/-- The proof that a list begins with its first m entries. -/
def partF : Nat → List ByteArray → Nat → Bool → List ByteArray
  | 0, l, _, whole => if whole then [] else [root l]
  | f + 1, l, m, whole => if m = l.length then (if whole then [] else [root l]) else
      if m ≤ half l.length then partF f (l.take (half l.length)) m whole ++ [root (l.drop (half l.length))] else partF f (l.drop (half l.length)) (m - half l.length) false ++ [root (l.take (half l.length))]
def part (l : List ByteArray) (m : Nat) (whole : Bool) : List ByteArray := partF l.length l m whole
theorem partF_fuel : ∀ (f g : Nat) (l : List ByteArray) (m : Nat) (b : Bool), l.length ≤ f → l.length ≤ g → 0 < m → m ≤ l.length → partF f l m b = partF g l m b := by
  intro f
  induction f with
  | zero => intro g l m b h1 h2 h3 h4; omega
  | succ f ih =>
    intro g l m b h1 h2 h3 h4
    obtain ⟨g, rfl⟩ : ∃ k, g = k + 1 := ⟨g - 1, by omega⟩
    rw [partF, partF]
    by_cases h : m = l.length
    · rw [if_pos h, if_pos h]
    · have hl := half_lt (n := l.length) (by omega)
      have hp := half_pos l.length
      rw [if_neg h, if_neg h]
      by_cases hm : m ≤ half l.length
      · rw [if_pos hm, if_pos hm, ih g (l.take (half l.length)) m b (by simp; omega) (by simp; omega) h3 (by simp; omega)]
      · rw [if_neg hm, if_neg hm, ih g (l.drop (half l.length)) _ false (by simp; omega) (by simp; omega) (by omega) (by simp; omega)]
theorem part_full (l : List ByteArray) (b : Bool) : part l l.length b = if b then [] else [root l] := by
  unfold part
  cases hl : l.length with
  | zero => rfl
  | succ n => rw [partF, if_pos hl.symm]
theorem part_split {l : List ByteArray} {m : Nat} (h0 : 0 < m) (h : m < l.length) (b : Bool) : part l m b =
    if m ≤ half l.length then part (l.take (half l.length)) m b ++ [root (l.drop (half l.length))] else part (l.drop (half l.length)) (m - half l.length) false ++ [root (l.take (half l.length))] := by
  have hl := half_lt (n := l.length) (by omega)
  have hp := half_pos l.length
  obtain ⟨f, hf⟩ : ∃ f, l.length = f + 1 := ⟨l.length - 1, by omega⟩
  unfold part
  conv => lhs; rw [hf, partF, if_neg (by omega)]
  by_cases hm : m ≤ half l.length
  · rw [if_pos hm, if_pos hm, partF_fuel f (l.take (half l.length)).length _ _ _ (by simp; omega) (Nat.le_refl _) h0 (by simp; omega)]
  · rw [if_neg hm, if_neg hm, partF_fuel f (l.drop (half l.length)).length _ _ _ (by simp; omega) (Nat.le_refl _) (by omega) (by simp; omega)]
theorem part_depth : ∀ (d : Nat) (l : List ByteArray) (m : Nat) (b : Bool), l.length ≤ 2 ^ d → 0 < m → m ≤ l.length → (part l m b).length ≤ d + 1
  | 0, l, m, b, h, h0, hm => by
    obtain rfl : m = l.length := by simp at h; omega
    rw [part_full]; split <;> simp
  | d + 1, l, m, b, h, h0, hm => by
    by_cases h1 : m = l.length
    · subst h1
      rw [part_full]; split <;> simp
    · have h2 : 2 ≤ l.length := by omega
      have hk := half_le_pow h2 h
      have hg := half_ge h2
      have hl := half_lt h2
      rw [part_split h0 (by omega)]
      split
      · have := part_depth d (l.take (half l.length)) m b (by simp; omega) h0 (by simp; omega)
        simp; omega
      · have := part_depth d (l.drop (half l.length)) (m - half l.length) false (by simp; omega) (by omega) (by simp; omega)
        simp; omega
theorem part_small (l : List ByteArray) (m : Nat) (b : Bool) (h : l.length ≤ 1000) (h0 : 0 < m) (hm : m ≤ l.length) : (part l m b).length ≤ 11 := part_depth 10 l m b (by omega) h0 hm
end Go.Proofs.YtjcamhekhfokhaaDoor
