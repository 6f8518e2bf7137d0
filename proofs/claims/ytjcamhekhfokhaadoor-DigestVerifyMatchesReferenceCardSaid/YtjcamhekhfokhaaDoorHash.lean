/- digest.Sum, Leaf, Node and Chain return the digests of the mathematics' text, where the table holds its words. -/
import Derived.Test.YtjcamhekhfokhaaDoorSumOf
namespace Go.Proofs.YtjcamhekhfokhaaDoor
open Go.RowKit Go.Shelf

/-- The digest of a list of bytes, as a string. -/
def hashS (l : List UInt8) : ByteArray := ⟨(sha l).toArray⟩
theorem hashS_size (l : List UInt8) : (hashS l).size = 32 := by
  show (sha l).toArray.size = 32
  rw [List.size_toArray, sha_len]
def sumS (s : ByteArray) : ByteArray := hashS s.data.toList
def leafS (s : ByteArray) : ByteArray := hashS (0 :: s.data.toList)
def nodeS (a b : ByteArray) : ByteArray := hashS (1 :: (a.data.toList ++ b.data.toList))
def chainS (a b : ByteArray) : ByteArray := hashS (2 :: (a.data.toList ++ b.data.toList))
theorem sumS_size (s : ByteArray) : (sumS s).size = 32 := hashS_size _
theorem leafS_size (s : ByteArray) : (leafS s).size = 32 := hashS_size _
theorem nodeS_size (a b : ByteArray) : (nodeS a b).size = 32 := hashS_size _
theorem chainS_size (a b : ByteArray) : (chainS a b).size = 32 := hashS_size _

theorem own_new (w : World) (C : Array Value) (n : Nat) (hC : C.size = n) (hn : n ≤ 1000) :
    (w.alloc (.cells C 9)).ownsRow w.heap.size 9 1 (.slice (some ⟨w.heap.size, 0, none⟩) n n) n C.toList :=
  ⟨by simp [hC], .inr ⟨w.heap.size, n, C, rfl, Nat.le_refl _, heap_alloc_new w _, Nat.le_refl _, by unfold maxLen; omega, by omega, by rw [← hC, Nat.mul_one, ← Array.length_toList, List.take_length]⟩⟩

theorem tab_in {w : World} (h : Tab w) : 0 < w.heap.size := World.block_lt_of_cell? _ _ (h 0 (by omega))

theorem sumOf_new (w : World) (ps : Nat → ByteArray) (C : Array Value) (m : Nat) (hm0 : 0 < m) (hm : m ≤ 100) (hC : C.toList = strsV ps m) (ht : Tab w) (hT : (partsL ps m).length ≤ 1000000000) :
    Calls Tryd.prog 40 #[.slice (some ⟨w.heap.size, 0, none⟩) m m] (w.alloc (.cells C 9)) fun e w' => e = .returned (.string (hashS (partsL ps m))) ∧ Below w.heap.size w w' := by
  have hs : C.size = m := by rw [← Array.length_toList, hC, strsV_len]
  have ho := own_new w C m hs (by omega)
  rw [hC] at ho
  have hgt := tab_in ht
  have hba : Below w.heap.size w (w.alloc (.cells C 9)) := (Below.refl _ _).alloc (Nat.le_refl _) _
  refine (callsIn_wide.1 (sumOf_in 5 (by omega) w.heap.size w.heap.size m m ps _ (ht.belowAt hba hgt) hgt (by simp) hm0 hm hT (by simp) ho)).mono ?_
  rintro e w' ⟨rfl, hb⟩
  exact ⟨rfl, hba.trans hb⟩

def tok (l : List ByteArray) (j : Nat) : ByteArray := l.getD j ⟨#[]⟩
theorem sum_any (s : ByteArray) (hs : s.size ≤ 100000000) (w : World) (ht : Tab w) :
    Calls Tryd.prog 13 #[.string s] w fun e w' => e = .returned (.string (sumS s)) ∧ Below w.heap.size w w' := by
  have HT := Lib.hid ht; clear ht
  have hT : (partsL (tok [s]) 1).length ≤ 1000000000 := by simp [partsL, tok]; omega
  go_enter Tryd.func13, Tryd.ntmps13
  go_wp2_with (go_at_call 40; refine (sumOf_new _ (tok [s]) _ 1 (by omega) (by omega) rfl HT.out hT).mono ?_; rintro e w' ⟨rfl, hb⟩)
  go_ret
  exact ⟨rfl, hb⟩
theorem leaf_any (s : ByteArray) (hs : s.size ≤ 100000000) (w : World) (ht : Tab w) :
    Calls Tryd.prog 15 #[.string s] w fun e w' => e = .returned (.string (leafS s)) ∧ Below w.heap.size w w' := by
  have HT := Lib.hid ht; clear ht
  have hT : (partsL (tok [⟨#[0]⟩, s]) 2).length ≤ 1000000000 := by simp [partsL, tok]; omega
  go_enter Tryd.func15, Tryd.ntmps15
  go_wp2_with (go_at_call 40; refine (sumOf_new _ (tok [⟨#[0]⟩, s]) _ 2 (by omega) (by omega) rfl HT.out hT).mono ?_; rintro e w' ⟨rfl, hb⟩)
  go_ret
  exact ⟨rfl, hb⟩
theorem node_any (a b : ByteArray) (ha : a.size ≤ 100000000) (hb : b.size ≤ 100000000) (w : World) (ht : Tab w) :
    Calls Tryd.prog 17 #[.string a, .string b] w fun e w' => e = .returned (.string (nodeS a b)) ∧ Below w.heap.size w w' := by
  have HT := Lib.hid ht; clear ht
  have hT : (partsL (tok [⟨#[1]⟩, a, b]) 3).length ≤ 1000000000 := by simp [partsL, tok]; omega
  have he : hashS (partsL (tok [⟨#[1]⟩, a, b]) 3) = nodeS a b := by rw [nodeS]; simp [partsL, tok]
  have HE := Lib.hid he; clear he
  go_enter Tryd.func17, Tryd.ntmps17
  go_wp2_with (go_at_call 40; refine (sumOf_new _ (tok [⟨#[1]⟩, a, b]) _ 3 (by omega) (by omega) rfl HT.out hT).mono ?_; rintro e w' ⟨rfl, hb⟩)
  go_ret
  exact ⟨by rw [← HE.out]; rfl, hb⟩
theorem chain_any (a b : ByteArray) (ha : a.size ≤ 100000000) (hb : b.size ≤ 100000000) (w : World) (ht : Tab w) :
    Calls Tryd.prog 19 #[.string a, .string b] w fun e w' => e = .returned (.string (chainS a b)) ∧ Below w.heap.size w w' := by
  have HT := Lib.hid ht; clear ht
  have hT : (partsL (tok [⟨#[2]⟩, a, b]) 3).length ≤ 1000000000 := by simp [partsL, tok]; omega
  have he : hashS (partsL (tok [⟨#[2]⟩, a, b]) 3) = chainS a b := by rw [chainS]; simp [partsL, tok]
  have HE := Lib.hid he; clear he
  go_enter Tryd.func19, Tryd.ntmps19
  go_wp2_with (go_at_call 40; refine (sumOf_new _ (tok [⟨#[2]⟩, a, b]) _ 3 (by omega) (by omega) rfl HT.out hT).mono ?_; rintro e w' ⟨rfl, hb⟩)
  go_ret
  exact ⟨by rw [← HE.out]; rfl, hb⟩
end Go.Proofs.YtjcamhekhfokhaaDoor
