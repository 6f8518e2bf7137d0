/- dialtonelaw02.few: at most n strings, each cut to 60 bytes. -/
import Derived.Test.YtjcamhekhfokhaaDoorVex
namespace Go.Proofs.YtjcamhekhfokhaaDoor
open Go.RowKit

def cutN (n : Nat) (s : ByteArray) : ByteArray := s.extract 0 (min s.size n)
theorem cutN_size (n : Nat) (s : ByteArray) : (cutN n s).size ≤ n := by simp [cutN]; omega
def fewL (n : Nat) (xs : List ByteArray) : List ByteArray := (xs.take n).map (cutN 60)
theorem few_len (n : Nat) (xs : List ByteArray) : (fewL n xs).length = min n xs.length := by simp [fewL]
theorem few_size {n : Nat} {xs : List ByteArray} : ∀ s ∈ fewL n xs, s.size ≤ 60 := by
  intro s hs
  obtain ⟨x, _, rfl⟩ := List.mem_map.1 hs
  exact cutN_size 60 x
theorem min_if (s : ByteArray) (n : Int) (h0 : 0 ≤ n) : ∃ M : Nat, M ≤ s.size ∧ (M : Int) ≤ n ∧ (M = s.size ∨ (M : Int) = n) ∧ (if n < (s.size : Int) then n else (s.size : Int)) = (M : Int) := by
  by_cases h : n < s.size
  · exact ⟨n.toNat, by omega, by omega, by omega, by rw [if_pos h]; omega⟩
  · exact ⟨s.size, by omega, by omega, by omega, by rw [if_neg h]⟩

set_option maxRecDepth 100000 in
set_option maxHeartbeats 1000000 in
theorem few_any (A : Option Addr) (c L n : Nat) (xs : List ByteArray) (w : World) (hL : L = xs.length) (hLm : L ≤ 9223372036854775807) (hn : n ≤ 1000) (hS : Strs w w.heap.size A xs) (hz : ∀ s ∈ xs, s.size ≤ 9223372036854775807) :
    Calls Tryd.prog 21 #[.slice A L c, .int .i64 n] w (OwnStrs w (fewL n xs)) := by
  obtain ⟨i0, hi0, hz0, hz1, hz2⟩ := info_parts string_info
  have HS := Lib.hid hS; have HL := Lib.hid hL; have HZ := Lib.hid hz
  clear hS hL hz
  go_enter Tryd.func21, Tryd.ntmps21
  go_wp2
  go_loopw [5, 6] (fun v p wr => ∃ j : Nat, p = .int .i64 j ∧ j ≤ n ∧ j ≤ L ∧ wr.ownsRow w.heap.size 9 1 v j ((fewL j xs).map Value.string) ∧ Below w.heap.size w wr) (fun _ p _ => L - (intOf p).toNat)
  case atStart => exact ⟨0, rfl, by omega, by omega, World.ownsRow_nil _ _ _ _, Below.refl _ _⟩
  case round =>
    obtain ⟨j, rfl, hjn, hjL, hrow, hbr⟩ := hrel
    by_cases hgo : j < L ∧ j < n
    · obtain ⟨hjl, hjn'⟩ := hgo
      have hjx : j < xs.length := by have := HL.out; omega
      have hs' := HS.out
      obtain ⟨b, o, rfl, hB⟩ := strs_some hs' (by intro e; rw [e] at hjx; simp at hjx)
      have cj := (hbr.cell (p := ⟨b, o + j, none⟩) hB).trans (strs_cell hs' j xs[j] (List.getElem?_eq_getElem hjx))
      have kz := HZ.out xs[j] (List.getElem_mem hjx)
      obtain ⟨X, hX⟩ : ∃ s, s = xs[j] := ⟨_, rfl⟩
      rw [← hX] at cj kz
      obtain ⟨M, M1, M2, M3, hM⟩ := min_if X 60 (by omega)
      obtain ⟨Y, hY⟩ : ∃ Y, X.extract 0 M = Y := ⟨_, rfl⟩
      have hYc : Y = cutN 60 X := by
        rw [← hY, cutN]; congr 1; omega
      have hnext : (fewL (j + 1) xs).map Value.string = (fewL j xs).map Value.string ++ [.string Y] := by
        rw [fewL, List.take_succ_eq_append_getElem hjx, List.map_append, List.map_append, ← fewL, List.map_cons, List.map_nil, ← hX, ← hYc]; rfl
      have e3' := (keep_alloc hbr (.cells #[.string Y] 9)).size
      have nb : some b ≠ u5.ownBlock := fun e => by have := (hrow.lt b e.symm).1; omega
      have bW : b < ((wr.alloc (.cells #[.string Y] 9)).drew).heap.size := by have := e3'; show b < (wr.alloc (.cells #[.string Y] 9)).heap.size; omega
      have HNX := Lib.hid hnext; have HR := Lib.hid hrow
      have j0 : (0 : Int) ≤ (j : Int) := by omega
      have j1 : (j : Int) < (L : Int) := by omega
      have j2 : (j : Int) < (n : Int) := by omega
      have m0 : (0 : Int) ≤ (M : Int) := by omega
      have m1 : (M : Int) ≤ (X.size : Int) := by omega
      have e1 : j + 1 ≤ maxLen := by unfold maxLen; omega
      have e2 : (j + 1) * 16 ≤ 140737488355328 := by omega
      have e3 := (keep_alloc hbr (.cells #[.string Y] 9)).size
      clear hs' hX hYc hnext hrow M3
      go_wp2
      go_region_held3 (fun w' => w'.cell? ⟨b, o + j, none⟩ = some (.string X)) (first | go_keep | exact (hgrow.cell_far _ bW nb).trans (by assumption))
        ((refine step_append_lies _ (by rfl) _ _ _ (by rfl) w.heap.size 9 i0 _ 1 16 Tryd.underlying26 hi0 hz0 hz1 hz2 rfl (by decide) u5 j ((fewL j xs).map Value.string) (by rfl) ((HR.out.alloc _).drew)
                ⟨wr.heap.size, 0, none⟩ 1 1 [.string Y] (by rfl) (by rfl) (World.news_of_block (cs := #[.string Y]) (t := 9) (fr := (0, 0)) (heap_alloc_new wr _)) (by simp [Value.oneCell'])
                (by decide) e1 e2 e3 (wr.heap.size + 1) (by simp) ?_; intro gg cap w6 hown6 hgrow hat hlt))
      go_wp2
      go_roundw
      case rel => exact ⟨j + 1, by go_num, by omega, by omega, by rw [HNX.out]; exact hown6, keep_grown (keep_alloc hbr _).drew hgrow ((HR.out.alloc _).drew)⟩
      case measure => simp [intOf]; omega
    · have hfin : fewL n xs = fewL j xs := by
        unfold fewL
        have := HL.out
        rcases Nat.lt_or_ge j n with h | h
        · rw [List.take_of_length_le (by omega), List.take_of_length_le (by omega)]
        · rw [show n = j by omega]
      have hl : (fewL j xs).length = j := by rw [few_len]; have := HL.out; omega
      have HF := Lib.hid hfin; have HLn := Lib.hid hl
      clear hfin hl
      by_cases hl1 : j < L
      · have hl2 : ¬ j < n := fun h => hgo ⟨hl1, h⟩
        clear hgo
        go_wp2
        go_ret
        exact ⟨_, rfl, by rw [HF.out, HLn.out]; exact hrow, hbr⟩
      · clear hgo
        go_wp2
        go_ret
        exact ⟨_, rfl, by rw [HF.out, HLn.out]; exact hrow, hbr⟩
end Go.Proofs.YtjcamhekhfokhaaDoor
