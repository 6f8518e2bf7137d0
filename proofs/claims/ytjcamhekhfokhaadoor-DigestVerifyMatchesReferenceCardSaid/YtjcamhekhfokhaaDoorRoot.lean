/- A slice that reads as a list of strings; digest.Root returns the root. -/
import Derived.Test.YtjcamhekhfokhaaDoorHalf
import Derived.RegionTactic
import Derived.BigQuiet
import Derived.Deep.QuietTactic
import Derived.StillTailTactics
import Derived.Deep.RegionHeld3
namespace Go.Proofs.YtjcamhekhfokhaaDoor
open Go.RowKit

/-- The slice at A reads as the strings xs; its cells lie below block B. -/
def Strs (w : World) (B : Nat) (A : Option Addr) (xs : List ByteArray) : Prop := xs = [] ∨ ∃ b o, A = some ⟨b, o, none⟩ ∧ b < B ∧ ∀ i s, xs[i]? = some s → w.cell? ⟨b, o + i, none⟩ = some (.string s)
section
variable {w w' : World} {B B' : Nat} {A : Option Addr} {xs : List ByteArray}
theorem Strs.below (h : Strs w B A xs) (hb : Below B w w') : Strs w' B A xs := by
  rcases h with h | ⟨b, o, e, hB, hc⟩
  · exact .inl h
  · exact .inr ⟨b, o, e, hB, fun i s hi => (hb.cell (p := ⟨b, o + i, none⟩) hB).trans (hc i s hi)⟩
theorem Strs.more (h : Strs w B A xs) (hB' : B ≤ B') : Strs w B' A xs := by
  rcases h with h | ⟨b, o, e, hB, hc⟩
  · exact .inl h
  · exact .inr ⟨b, o, e, by omega, hc⟩
theorem strs_take {b o : Nat} (hB : b < B) (hc : ∀ i s, xs[i]? = some s → w.cell? ⟨b, o + i, none⟩ = some (.string s)) (k : Nat) : Strs w B (some ⟨b, o, none⟩) (xs.take k) :=
  .inr ⟨b, o, rfl, hB, fun i s hi => hc i s (by rw [List.getElem?_take] at hi; split at hi; exact hi; cases hi)⟩
theorem strs_drop {b o : Nat} (hB : b < B) (hc : ∀ i s, xs[i]? = some s → w.cell? ⟨b, o + i, none⟩ = some (.string s)) (k : Nat) : Strs w B (some ⟨b, o + k, none⟩) (xs.drop k) :=
  .inr ⟨b, o + k, rfl, hB, fun i s hi => by rw [Nat.add_assoc]; exact hc (k + i) s (by rw [List.getElem?_drop] at hi; exact hi)⟩
end

set_option maxRecDepth 100000 in
set_option maxHeartbeats 1000000 in
theorem root_fuel : ∀ (f : Nat) (A : Option Addr) (c : Nat) (xs : List ByteArray) (w : World), xs.length ≤ f → xs.length ≤ c → c ≤ 9223372036854775807 → Tab w → Strs w w.heap.size A xs → (∀ s ∈ xs, s.size ≤ 1000) →
    Calls Tryd.prog 27 #[.slice A xs.length c] w fun e w' => e = .returned (.string (root xs)) ∧ Below w.heap.size w w' := by
  intro f
  induction f with
  | zero =>
    intro A c xs w hf hc hcm ht hs hz
    obtain rfl : xs = [] := List.eq_nil_of_length_eq_zero (by omega)
    have HT := Lib.hid ht; clear ht
    go_enter Tryd.func27, Tryd.ntmps27
    go_wp2_with (go_at_call 13; refine (sum_any _ (by decide) _ HT.out).mono ?_; rintro e w' ⟨rfl, hb⟩)
    go_ret
    exact ⟨rfl, hb⟩
  | succ f ih =>
    intro A c xs w hf hc hcm ht hs hz
    match xs, hs, hz, hf, hc with
    | [], hs, hz, hf, hc => exact ih A c [] w (by simp) (by simp) hcm ht hs hz
    | [s], hs, hz, hf, hc =>
      rcases hs with h | ⟨b, o, rfl, hB, hcell⟩
      · cases h
      have c0 : w.cell? ⟨b, o, none⟩ = some (.string s) := hcell 0 s rfl
      have ks := hz s (by simp)
      have HT := Lib.hid ht; clear ht hcell hz
      go_enter Tryd.func27, Tryd.ntmps27
      go_wp2_with (go_at_call 15; refine (leaf_any _ (by omega) _ HT.out).mono ?_; rintro e w' ⟨rfl, hb⟩)
      go_ret
      exact ⟨rfl, hb⟩
    | x :: y :: r, hs, hz, hf, hc =>
      obtain ⟨xs, hxs⟩ : ∃ xs, xs = x :: y :: r := ⟨_, rfl⟩
      rw [← hxs] at hs hz hf hc ⊢
      have h2 : 2 ≤ xs.length := by rw [hxs]; simp
      rcases hs with h | ⟨b, o, rfl, hB, hcell⟩
      · rw [h] at h2; simp at h2
      obtain ⟨n, hn⟩ : ∃ n, n = xs.length := ⟨_, rfl⟩
      obtain ⟨k, hk⟩ : ∃ k, k = half n := ⟨_, rfl⟩
      have k1 : k < n := by rw [hk]; exact half_lt (by omega)
      have k0 : 0 < k := by rw [hk]; exact half_pos n
      have hroot : root xs = nodeS (root (xs.take k)) (root (xs.drop k)) := by rw [root_split h2, ← hn, ← hk]
      have hfirst := fun w => first_any n (by omega) (by omega) w
      rw [← hk] at hfirst
      have iht := fun w' (ht' : Tab w') (hs' : Strs w' w'.heap.size (some ⟨b, o, none⟩) (xs.take k)) => ih (some ⟨b, o, none⟩) c (xs.take k) w' (by simp; omega) (by simp; omega) hcm ht' hs' (fun s hs => hz s (List.mem_of_mem_take hs))
      have ihd := fun w' (ht' : Tab w') (hs' : Strs w' w'.heap.size (some ⟨b, o + k, none⟩) (xs.drop k)) => ih (some ⟨b, o + k, none⟩) (c - k) (xs.drop k) w' (by simp; omega) (by simp; omega) (by omega) ht' hs' (fun s hs => hz s (List.mem_of_mem_drop hs))
      have lt : (xs.take k).length = k := by simp; omega
      have ld : (xs.drop k).length = n - k := by simp [hn]
      rw [lt] at iht
      rw [ld] at ihd
      have st : Strs w w.heap.size (some ⟨b, o, none⟩) (xs.take k) := strs_take hB hcell k
      have sd : Strs w w.heap.size (some ⟨b, o + k, none⟩) (xs.drop k) := strs_drop hB hcell k
      have HT := Lib.hid ht; have HR := Lib.hid hroot; have ST := Lib.hid st; have SD := Lib.hid sd
      have hcn : n ≤ c := by omega
      have ck : ¬ c = k := by omega
      have hn2 : 2 ≤ n := by omega
      have i0 : (0 : Int) ≤ (k : Int) := by omega
      have i1 : (k : Int) ≤ (n : Int) := by omega
      have i2 : (k : Int) ≤ (c : Int) := by omega
      have i3 : (n : Int) ≤ (c : Int) := by omega
      rw [← hn]
      have g0 : ((n : Int) == 0) = false := by rw [beq_eq_false_iff_ne]; omega
      have g1 : ((n : Int) == 1) = false := by rw [beq_eq_false_iff_ne]; omega
      clear ht hroot st sd hcell hz ih hk hn lt ld hxs hf hc h2
      go_enter Tryd.func27, Tryd.ntmps27
      go_wp2_with (go_at_call 47; refine (hfirst _).mono ?_; rintro e w' ⟨rfl, rfl⟩)
      go_region_held3 (fun w' => Below w.heap.size w w') (first | go_keep | exact (Below.refl _ _).drew | exact Below.trans (by assumption) (Below.mono (by assumption) (Below.size (by assumption))))
        (first
          | (go_at_call 17; ((with_reducible refine (node_any _ _ (by rw [root_size]; decide) (by rw [root_size]; decide) _ (HT.out.below (by assumption))).mono ?_); rintro e w4 ⟨rfl, b4⟩))
          | (go_at_call 27; ((with_reducible refine (iht _ (HT.out.below (by assumption)) ((ST.out.below (by assumption)).more (Below.size (by assumption)))).mono ?_); rintro e w4 ⟨rfl, b4⟩))
          | (go_at_call 27; ((with_reducible refine (ihd _ (HT.out.below (by assumption)) ((SD.out.below (by assumption)).more (Below.size (by assumption)))).mono ?_); rintro e w4 ⟨rfl, b4⟩)))
      go_wp2
      go_ret
      exact ⟨by rw [HR.out]; rfl, by assumption⟩
theorem root_any (A : Option Addr) (c n : Nat) (xs : List ByteArray) (w : World) (hn : n = xs.length) (hc : n ≤ c) (hcm : c ≤ 9223372036854775807) (ht : Tab w) (hs : Strs w w.heap.size A xs) (hz : ∀ s ∈ xs, s.size ≤ 1000) :
    Calls Tryd.prog 27 #[.slice A n c] w fun e w' => e = .returned (.string (root xs)) ∧ Below w.heap.size w w' := by
  subst hn
  exact root_fuel xs.length A c xs w (Nat.le_refl _) hc hcm ht hs hz
end Go.Proofs.YtjcamhekhfokhaaDoor
