/- Small lemmas that the walks of the laws share. -/
import Derived.Test.YtcmeplgkillbdaaDoorSane
import Derived.Test.YtcmeplgkillbdaaDoorNum
import Derived.Test.YtcmeplgkillbdaaDoorMore
namespace Go.Proofs.YtcmeplgkillbdaaDoor
open Go.RowKit

/-- A beginning of a string: at most n bytes. -/
theorem min_if (s : ByteArray) (n : Int) (h0 : 0 ≤ n) : ∃ M : Nat, M ≤ s.size ∧ (M : Int) ≤ n ∧ (M = s.size ∨ (M : Int) = n) ∧ (if n < (s.size : Int) then n else (s.size : Int)) = (M : Int) := by
  by_cases h : n < s.size
  · exact ⟨n.toNat, by omega, by omega, by omega, by rw [if_pos h]; omega⟩
  · exact ⟨s.size, by omega, by omega, by omega, by rw [if_neg h]⟩

theorem ext_size (s : ByteArray) (M : Nat) (h : M ≤ s.size) : (s.extract 0 M).size = M := by simp; omega
theorem putInt_in {n : Int} (h : -4611686018427387903 ≤ n ∧ n ≤ 4611686018427387903) : putIntS n = (enc n, 0) := by rw [putIntS, maxInt, if_neg (by omega)]
theorem putString_in {s : ByteArray} (h : s.size ≤ 65536) : putStringS s.data.toList = (enc s.size ++ s.data.toList, 0) := by rw [putStringS, len_data, if_neg (by omega)]

theorem ext_list (s : ByteArray) (M : Nat) : (s.extract 0 M).data.toList = s.data.toList.take M := by simp
theorem intS_cut3 {l : List UInt8} (h : (intS l 0).2.2 = 10) : intS l 0 = (0, 0, 10) := by
  obtain ⟨a, b, c, hi⟩ : ∃ a b c, intS l 0 = (a, b, c) := ⟨_, _, _, rfl⟩
  have := intS_err l 0
  rw [hi] at h this ⊢
  simp only at h this
  subst h
  rcases this with h | ⟨rfl, rfl, _⟩
  · omega
  · rfl
theorem stringS_cut3 {l : List UInt8} (h : (stringS l 0).2.2 = 10) : stringS l 0 = ([], 0, 10) := by
  obtain ⟨a, b, c, hi⟩ : ∃ a b c, stringS l 0 = (a, b, c) := ⟨_, _, _, rfl⟩
  have := stringS_err l 0
  rw [hi] at h this ⊢
  simp only at h this
  subst h
  rcases this with h | ⟨rfl, rfl, _⟩
  · omega
  · rfl
/-- What Int answers at an offset into the string: it accepts an encoding, or it returns ErrWire. -/
theorem int_two (t : ByteArray) (k : Nat) (hk : k ≤ t.size) :
    (∃ (n : Int) (x : Nat), intS t.data.toList k = (n, (x : Int), 0) ∧ -4611686018427387903 ≤ n ∧ n ≤ 4611686018427387903 ∧ k ≤ x ∧ x ≤ t.size ∧ t.extract k x = ⟨(enc n).toArray⟩) ∨ intS t.data.toList k = (0, 0, 10) := by
  obtain ⟨n, x, e, hi⟩ : ∃ n x e, intS t.data.toList k = (n, x, e) := ⟨_, _, _, rfl⟩
  have h := intS_err t.data.toList k
  rw [hi] at h
  simp only [len_data] at h
  by_cases he : e = 0
  · subst he
    obtain ⟨b1, b2, b3, b4, b5, b6⟩ := intS_ok hi
    rw [len_data] at b5
    unfold maxInt at b2 b3
    refine .inl ⟨n, k + (enc n).length, by rw [hi, b4]; simp, b2, b3, by omega, by omega, ?_⟩
    rw [Int.toNat_natCast] at b6
    apply ByteArray.ext
    rw [← Array.toList_inj]
    simpa [ByteArray.data_extract] using b6
  · rcases h with h | ⟨rfl, rfl, h⟩
    · exact absurd h he
    · rcases h with ⟨_, h⟩ | rfl
      · omega
      · exact .inr hi
theorem string_two (t : ByteArray) (k : Nat) (hk : k ≤ t.size) :
    (∃ (v : ByteArray) (x : Nat), stringS t.data.toList k = (v.data.toList, (x : Int), 0) ∧ v.size ≤ 65536 ∧ k ≤ x ∧ x ≤ t.size ∧ t.extract k x = ⟨(enc v.size ++ v.data.toList).toArray⟩) ∨ stringS t.data.toList k = ([], 0, 10) := by
  obtain ⟨v, x, e, hi⟩ : ∃ v x e, stringS t.data.toList k = (v, x, e) := ⟨_, _, _, rfl⟩
  have h := stringS_err t.data.toList k
  rw [hi] at h
  simp only [len_data] at h
  by_cases he : e = 0
  · subst he
    obtain ⟨b1, b2, b4, b5, b6⟩ := stringS_ok hi
    rw [len_data] at b5
    refine .inl ⟨⟨v.toArray⟩, k + (enc v.length ++ v).length, by rw [hi, b4]; simp, by rw [size_arr]; exact b2, by omega, by omega, ?_⟩
    rw [Int.toNat_natCast] at b6
    apply ByteArray.ext
    rw [← Array.toList_inj, size_arr]
    simpa [ByteArray.data_extract] using b6
  · rcases h with h | ⟨rfl, rfl, h⟩
    · exact absurd h he
    · rcases h with ⟨_, h⟩ | rfl
      · omega
      · exact .inr hi
end Go.Proofs.YtcmeplgkillbdaaDoor
