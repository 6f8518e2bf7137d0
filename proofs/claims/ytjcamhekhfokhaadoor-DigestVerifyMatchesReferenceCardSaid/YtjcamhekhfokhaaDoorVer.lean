/- digest.Proof, Extension, areDigests, cutLast, valueOf, Verify. -/
import Derived.Test.YtjcamhekhfokhaaDoorExt
namespace Go.Proofs.YtjcamhekhfokhaaDoor
open Go.RowKit

def ProofRes (w : World) (r : List ByteArray × Int) (e : Ending) (w' : World) : Prop := ∃ v, e = .returned (.tuple #[v, .int .i64 r.2]) ∧ w'.ownsRow w.heap.size 9 1 v r.1.length (r.1.map Value.string) ∧ Below w.heap.size w w'
def proofE (xs : List ByteArray) (i : Int) : List ByteArray × Int := if 0 ≤ i ∧ i < xs.length then (proof xs i.toNat, 0) else ([], 2)
def extE (xs : List ByteArray) (m : Int) : List ByteArray × Int := if m < 0 ∨ (xs.length : Int) < m then ([], 2) else if m = 0 ∨ m = xs.length then ([], 0) else (part xs m.toNat true, 0)
theorem proofRes_nil (w : World) (k : Int) : ProofRes w ([], k) (.returned (.tuple #[.slice none 0 0, .int .i64 k])) w := ⟨_, rfl, World.ownsRow_nil _ _ _ _, Below.refl _ _⟩

set_option maxRecDepth 100000 in
theorem proofE_any (A : Option Addr) (c n : Nat) (xs : List ByteArray) (i : Int) (w : World) (hn : n = xs.length) (h1000 : n ≤ 1000) (hc : n ≤ c) (hcm : c ≤ 9223372036854775807) (ht : Tab w) (hs : Strs w w.heap.size A xs) (hz : ∀ s ∈ xs, s.size ≤ 1000) :
    Calls Tryd.prog 22 #[.slice A n c, .int .i64 i] w (ProofRes w (proofE xs i)) := by
  by_cases h0 : i < 0
  · have e : proofE xs i = ([], 2) := by rw [proofE, if_neg (by omega)]
    rw [e]
    clear e ht hs hz
    go_enter Tryd.func22, Tryd.ntmps22
    go_wp2
    go_ret2
    exact proofRes_nil w 2
  · by_cases h1 : (n : Int) ≤ i
    · have e : proofE xs i = ([], 2) := by rw [proofE, if_neg (by omega)]
      rw [e]
      clear e ht hs hz
      go_enter Tryd.func22, Tryd.ntmps22
      go_wp2
      go_ret2
      exact proofRes_nil w 2
    · have e : proofE xs i = (proof xs i.toNat, 0) := by rw [proofE, if_pos (by omega)]
      obtain ⟨j, rfl⟩ := Int.eq_ofNat_of_zero_le (show 0 ≤ i by omega)
      have hp := proof_any A c n xs j w hn h1000 hc hcm (by omega) ht hs hz
      rw [e]
      obtain ⟨L, hL⟩ : ∃ L, L = proof xs j := ⟨_, rfl⟩
      rw [Int.toNat_natCast]
      rw [← hL] at hp ⊢
      clear e ht hs hz hL hn
      go_enter Tryd.func22, Tryd.ntmps22
      go_wp2_with (go_at_call 43; refine hp.mono ?_; rintro e w1 ⟨v, rfl, o1, b1⟩)
      go_ret2
      exact ⟨_, rfl, o1, b1⟩
set_option maxRecDepth 100000 in
theorem extE_any (A : Option Addr) (c n : Nat) (xs : List ByteArray) (m : Int) (w : World) (hn : n = xs.length) (h1000 : n ≤ 1000) (hc : n ≤ c) (hcm : c ≤ 9223372036854775807) (ht : Tab w) (hs : Strs w w.heap.size A xs) (hz : ∀ s ∈ xs, s.size ≤ 1000) :
    Calls Tryd.prog 24 #[.slice A n c, .int .i64 m] w (ProofRes w (extE xs m)) := by
  by_cases h0 : m < 0
  · have e : extE xs m = ([], 2) := by rw [extE, if_pos (by omega)]
    rw [e]
    clear e ht hs hz
    go_enter Tryd.func24, Tryd.ntmps24
    go_wp2
    go_ret2
    exact proofRes_nil w 2
  · by_cases h1 : (n : Int) < m
    · have e : extE xs m = ([], 2) := by rw [extE, if_pos (by omega)]
      rw [e]
      clear e ht hs hz
      go_enter Tryd.func24, Tryd.ntmps24
      go_wp2
      go_ret2
      exact proofRes_nil w 2
    · obtain ⟨j, rfl⟩ := Int.eq_ofNat_of_zero_le (show 0 ≤ m by omega)
      by_cases h2 : j = 0
      · have e : extE xs j = ([], 0) := by rw [extE, if_neg (by omega), if_pos (by omega)]
        rw [e]
        clear e ht hs hz hn
        subst h2
        go_enter Tryd.func24, Tryd.ntmps24
        go_wp2
        go_ret2
        exact proofRes_nil w 0
      · have g0 : ((j : Int) == 0) = false := by rw [beq_eq_false_iff_ne]; omega
        by_cases h3 : j = n
        · have e : extE xs j = ([], 0) := by rw [extE, if_neg (by omega), if_pos (by omega)]
          rw [e]
          clear ht hs hz
          clear e hn
          subst h3
          go_enter Tryd.func24, Tryd.ntmps24
          go_wp2
          go_ret2
          exact proofRes_nil w 0
        · have e : extE xs j = (part xs j true, 0) := by rw [extE, if_neg (by omega), if_neg (by omega), Int.toNat_natCast]
          have hp := part_any A c n xs j true w hn h1000 hc hcm (by omega) (by omega) ht hs hz
          have g1 : ((j : Int) == (n : Int)) = false := by rw [beq_eq_false_iff_ne]; omega
          rw [e]
          obtain ⟨L, hL⟩ : ∃ L, L = part xs j true := ⟨_, rfl⟩
          rw [← hL] at hp ⊢
          clear e ht hs hz hL hn
          go_enter Tryd.func24, Tryd.ntmps24
          go_wp2_with (go_at_call 45; refine hp.mono ?_; rintro e w1 ⟨v, rfl, o1, b1⟩)
          go_ret2
          exact ⟨_, rfl, o1, b1⟩

/-- All strings have the length of digests. -/
def allDig (xs : List ByteArray) : Bool := xs.all fun s => decide (s.size = 32)
theorem ret_bool {a b : Bool} (h : a = b) : Ending.returned (.bool a) = .returned (.bool b) := by rw [h]
set_option maxRecDepth 100000 in
theorem digs_any (A : Option Addr) (c n : Nat) (xs : List ByteArray) (w : World) (hn : n = xs.length) (hnm : n ≤ 9223372036854775807) (hs : Strs w w.heap.size A xs) (hz : ∀ s ∈ xs, s.size ≤ 9223372036854775807) :
    Calls Tryd.prog 48 #[.slice A n c] w fun e w' => e = .returned (.bool (allDig xs)) ∧ w' = w := by
  obtain ⟨D, hD⟩ : ∃ d, d = allDig xs := ⟨_, rfl⟩
  rw [← hD]
  have HD := Lib.hid hD; have HS := Lib.hid hs; have HN := Lib.hid hn; have HZ := Lib.hid hz
  clear hD hs hn hz
  go_enter Tryd.func48, Tryd.ntmps48
  go_wp2
  go_loop [7] (fun p => ∃ j : Nat, p = .int .i64 j ∧ j ≤ n ∧ allDig xs = allDig (xs.drop j)) (fun p => n - (intOf p).toNat)
  case atStart => exact ⟨0, rfl, by omega, rfl⟩
  case round =>
    obtain ⟨j, rfl, hj, hd⟩ := hrel
    by_cases hlt : j < n
    · have hjx : j < xs.length := by have := HN.out; omega
      have hs' := HS.out
      rcases hs' with h | ⟨b, o, rfl, hB, hc⟩
      · rw [h] at hjx; simp at hjx
      have cj := hc j xs[j] (List.getElem?_eq_getElem hjx)
      have kz := HZ.out xs[j] (List.getElem_mem hjx)
      have hdrop : xs.drop j = xs[j] :: xs.drop (j + 1) := List.drop_eq_getElem_cons hjx
      rw [hdrop] at hd
      obtain ⟨s, hsj⟩ : ∃ s, s = xs[j] := ⟨_, rfl⟩
      rw [← hsj] at cj kz hd
      by_cases h32 : s.size = 32
      · have e : allDig (s :: xs.drop (j + 1)) = allDig (xs.drop (j + 1)) := by simp [allDig, h32]
        rw [e] at hd
        have g : ((s.size : Int) == 32) = true := by simp; omega
        have g' : ((s.size : Int) != 32) = false := by rw [bne, g]; rfl
        have HX := Lib.hid hd
        clear hc hd hdrop hsj e h32 HS
        go_wp2
        go_round
        case rel => exact ⟨j + 1, by go_num, by omega, HX.out⟩
        case measure => simp [intOf]; omega
      · have e : allDig (s :: xs.drop (j + 1)) = false := by simp [allDig, h32]
        rw [e] at hd
        have g : ((s.size : Int) == 32) = false := by rw [beq_eq_false_iff_ne]; omega
        have g' : ((s.size : Int) != 32) = true := by rw [bne, g]; rfl
        have HX := Lib.hid hd
        clear hc hd hdrop hsj e h32 HS
        go_wp2
        go_ret
        exact ⟨ret_bool (by rw [HD.out, HX.out]), rfl⟩
    · obtain rfl : j = n := by omega
      rw [List.drop_of_length_le (by rw [← HN.out]; omega)] at hd
      have HX := Lib.hid hd
      clear hd
      go_wp2
      go_ret
      exact ⟨ret_bool (by rw [HD.out, HX.out]; rfl), rfl⟩

theorem cut_any (b o c k : Nat) (q : List ByteArray) (x : ByteArray) (w : World) (hk : k = q.length) (hc : k + 1 ≤ c) (hcm : c ≤ 9223372036854775807) (hcell : ∀ i s, (q ++ [x])[i]? = some s → w.cell? ⟨b, o + i, none⟩ = some (.string s)) :
    Calls Tryd.prog 60 #[.slice (some ⟨b, o, none⟩) (k + 1) c] w fun e w' => e = .returned (.tuple #[.slice (some ⟨b, o, none⟩) k c, .string x]) ∧ ∃ n, w' = w.drewN n := by
  have ck : w.cell? ⟨b, o + k, none⟩ = some (.string x) := hcell k x (by rw [hk]; simp)
  clear hcell hk
  have e1 : IntKind.i64.wrap (((k + 1 : Nat) : Int) - 1) = (k : Int) := by rw [IntWalk.i64_in _ (by omega)]; omega
  have i0 : (0 : Int) ≤ (k : Int) := by omega
  have i1 : (k : Int) ≤ (c : Int) := by omega
  have i2 : (k : Int) < ((k + 1 : Nat) : Int) := by omega
  have i3 : (k : Int) < (k : Int) + 1 := by omega
  go_enter Tryd.func60, Tryd.ntmps60
  go_wp2
  go_quiet (fail)
  go_wp2
  go_ret2
  exact ⟨rfl, _, rfl⟩
end Go.Proofs.YtjcamhekhfokhaaDoor
