/- The reference's Proof and Extension return what the mathematics' text says. -/
import Derived.Test.YtjcamhekhfokhaaDoorRefT
import Derived.Test.YtjcamhekhfokhaaDoorVer
namespace Go.Proofs.YtjcamhekhfokhaaDoor
open Go.RowKit

set_option maxRecDepth 100000 in
set_option maxHeartbeats 1000000 in
theorem refproof_fuel : ∀ (f : Nat) (A : Option Addr) (c : Nat) (xs : List ByteArray) (i : Nat) (w : World), xs.length ≤ f → xs.length ≤ 1000 → xs.length ≤ c → c ≤ 9223372036854775807 → i < xs.length → Tab w → Strs w w.heap.size A xs → (∀ s ∈ xs, s.size ≤ 1000) →
    Calls Tryd.prog 23 #[.slice A xs.length c, .int .i64 i] w (ProofRes w (proof xs i, 0)) := by
  intro f
  induction f with
  | zero => intro A c xs i w hf h1000 hc hcm hi; omega
  | succ f ih =>
    intro A c xs i w hf h1000 hc hcm hi ht hs hz
    by_cases h1 : xs.length = 1
    · rw [proof_one (by omega)]
      rw [h1]
      have hi0 : ¬ ((1 : Nat) : Int) ≤ (i : Int) := by omega
      have hi1 : (0 : Int) ≤ (i : Int) := by omega
      obtain rfl : i = 0 := by omega
      clear ih hs hz
      go_enter Tryd.func23, Tryd.ntmps23
      go_wp2
      go_ret2
      exact proofRes_nil w 0
    · have h2 : 2 ≤ xs.length := by omega
      rcases hs with h | ⟨b, o, rfl, hB, hcell⟩
      · rw [h] at h2; simp at h2
      obtain ⟨i0, hi0, hz0, hz1, hz2⟩ := info_parts string_info
      obtain ⟨n, hn⟩ : ∃ n, n = xs.length := ⟨_, rfl⟩
      obtain ⟨k, hk⟩ : ∃ k, k = half n := ⟨_, rfl⟩
      have k1 : k < n := by rw [hk]; exact half_lt (by omega)
      have k0 : 0 < k := by rw [hk]; exact half_pos n
      have hfirst := fun w => refleft_eq n (by omega) (by omega) w
      rw [← hk] at hfirst
      have lt : (xs.take k).length = k := by simp; omega
      have ld : (xs.drop k).length = n - k := by simp [hn]
      have zt : ∀ s ∈ xs.take k, s.size ≤ 1000 := fun s hs => hz s (List.mem_of_mem_take hs)
      have zd : ∀ s ∈ xs.drop k, s.size ≤ 1000 := fun s hs => hz s (List.mem_of_mem_drop hs)
      have st : Strs w w.heap.size (some ⟨b, o, none⟩) (xs.take k) := strs_take hB hcell k
      have sd : Strs w w.heap.size (some ⟨b, o + k, none⟩) (xs.drop k) := strs_drop hB hcell k
      have rt := fun w' ht' hs' => refroot_any (some ⟨b, o, none⟩) c k (xs.take k) w' lt.symm (by omega) hcm ht' hs' zt
      have rd := fun w' ht' hs' => refroot_any (some ⟨b, o + k, none⟩) (c - k) (n - k) (xs.drop k) w' ld.symm (by omega) (by omega) ht' hs' zd
      obtain ⟨Rt, hRt⟩ : ∃ r, r = root (xs.take k) := ⟨_, rfl⟩
      obtain ⟨Rd, hRd⟩ : ∃ r, r = root (xs.drop k) := ⟨_, rfl⟩
      rw [← hRt] at rt
      rw [← hRd] at rd
      have ht' := ht
      have HT := Lib.hid ht; have ST := Lib.hid st; have SD := Lib.hid sd; have HRt := Lib.hid hRt; have HRd := Lib.hid hRd
      have i0' : (0 : Int) ≤ (k : Int) := by omega
      have i1 : (k : Int) ≤ (n : Int) := by omega
      have i2 : (k : Int) ≤ (c : Int) := by omega
      have i3 : (n : Int) ≤ (c : Int) := by omega
      have hcn : n ≤ c := by omega
      have ck : ¬ c = k := by omega
      have hn2 : 2 ≤ n := by omega
      have g1 : ((n : Int) == 1) = false := by rw [beq_eq_false_iff_ne]; omega
      have t0 : (0 : Int) ≤ (i : Int) := by omega
      have t1 : (i : Int) < (n : Int) := by omega
      have plt : ∀ j, (proof (xs.take k) j).length ≤ 10 := fun j => proof_small _ j (by omega)
      have pld : ∀ j, (proof (xs.drop k) j).length ≤ 10 := fun j => proof_small _ j (by omega)
      by_cases hik : i < k
      · have iht := fun w' (ht' : Tab w') (hs' : Strs w' w'.heap.size (some ⟨b, o, none⟩) (xs.take k)) => ih (some ⟨b, o, none⟩) c (xs.take k) i w' (by omega) (by omega) (by omega) hcm (by omega) ht' hs' zt
        rw [lt] at iht
        have hp : proof xs i = proof (xs.take k) i ++ [Rd] := by rw [proof_split h2, ← hn, ← hk, if_pos hik, hRd]
        have pl := plt i
        obtain ⟨L, hL⟩ : ∃ L, L = proof (xs.take k) i := ⟨_, rfl⟩
        rw [← hL] at iht hp pl
        have HP := Lib.hid hp
        have hik' : (i : Int) < (k : Int) := by omega
        have m1 : L.length + 1 ≤ maxLen := by unfold maxLen; omega
        have m2 : (L.length + 1) * 16 ≤ 140737488355328 := by omega
        rw [← hn]
        clear ht' ht st sd hcell hz ih hk hn lt ld hf hc h2 hp hRt hRd hL plt pld zt zd rt
        go_enter Tryd.func23, Tryd.ntmps23
        go_wp2_with fail
        refine (hfirst _).mono ?_
        rintro e w' ⟨rfl, rfl⟩
        go_wp2_with fail
        refine (iht _ HT.out ST.out).mono ?_
        rintro e w4 ⟨v4, rfl, o4, b4⟩
        have T4 := Lib.hid (HT.out.below b4)
        have S4 := Lib.hid ((SD.out.below b4).more b4.size)
        go_wp2_with (first
          | (go_at_call 28; ((with_reducible refine (rd _ T4.out S4.out).mono ?_); rintro e w5 ⟨rfl, b5⟩; have o5 := own_over o4 b5; have q5 := below_step b4 b5))
          | (at_builtin; (refine wpList_append_strs rfl _ _ rfl w.heap.size v4 L.length L rfl (o5.alloc _) (some ⟨w5.heap.size, 0, none⟩) 1 1 [Rd] rfl rfl (strs_new1 w5 Rd) (by omega) (keep_alloc q5 _).size ?_; intro v6 w6 o6 g6; have b6 := keep_grown (keep_alloc q5 _) g6 (o5.alloc _))))
        go_ret2
        exact ⟨_, rfl, by rw [HP.out, List.length_append]; exact o6, b6⟩
      · obtain ⟨q, hq⟩ : ∃ q, q = i - k := ⟨_, rfl⟩
        have ihd := fun w' (ht' : Tab w') (hs' : Strs w' w'.heap.size (some ⟨b, o + k, none⟩) (xs.drop k)) => ih (some ⟨b, o + k, none⟩) (c - k) (xs.drop k) q w' (by omega) (by omega) (by omega) (by omega) (by omega) ht' hs' zd
        rw [ld] at ihd
        have hp : proof xs i = proof (xs.drop k) q ++ [Rt] := by rw [proof_split h2, ← hn, ← hk, if_neg hik, hRt, hq]
        have pl := pld q
        obtain ⟨L, hL⟩ : ∃ L, L = proof (xs.drop k) q := ⟨_, rfl⟩
        rw [← hL] at ihd hp pl
        have HP := Lib.hid hp
        have hik' : (k : Int) ≤ (i : Int) := by omega
        have m1 : L.length + 1 ≤ maxLen := by unfold maxLen; omega
        have m2 : (L.length + 1) * 16 ≤ 140737488355328 := by omega
        have wq : IntKind.i64.wrap ((i : Int) - (k : Int)) = (q : Int) := by rw [IntWalk.i64_in _ (by omega)]; omega
        rw [← hn]
        clear ht' ht st sd hcell hz ih hk hn lt ld hf hc h2 hp hRt hRd hL plt pld zt zd rd hq
        go_enter Tryd.func23, Tryd.ntmps23
        go_wp2_with fail
        refine (hfirst _).mono ?_
        rintro e w' ⟨rfl, rfl⟩
        go_wp2_with fail
        refine (ihd _ HT.out SD.out).mono ?_
        rintro e w4 ⟨v4, rfl, o4, b4⟩
        have T4 := Lib.hid (HT.out.below b4)
        have S4 := Lib.hid ((ST.out.below b4).more b4.size)
        go_wp2_with (first
          | (go_at_call 28; ((with_reducible refine (rt _ T4.out S4.out).mono ?_); rintro e w5 ⟨rfl, b5⟩; have o5 := own_over o4 b5; have q5 := below_step b4 b5))
          | (at_builtin; (refine wpList_append_strs rfl _ _ rfl w.heap.size v4 L.length L rfl (o5.alloc _) (some ⟨w5.heap.size, 0, none⟩) 1 1 [Rt] rfl rfl (strs_new1 w5 Rt) (by omega) (keep_alloc q5 _).size ?_; intro v6 w6 o6 g6; have b6 := keep_grown (keep_alloc q5 _) g6 (o5.alloc _))))
        go_ret2
        exact ⟨_, rfl, by rw [HP.out, List.length_append]; exact o6, b6⟩

set_option maxRecDepth 100000 in
theorem refproof_any (A : Option Addr) (c n : Nat) (xs : List ByteArray) (i : Int) (w : World) (hn : n = xs.length) (h1000 : n ≤ 1000) (hc : n ≤ c) (hcm : c ≤ 9223372036854775807) (ht : Tab w) (hs : Strs w w.heap.size A xs) (hz : ∀ s ∈ xs, s.size ≤ 1000) :
    Calls Tryd.prog 23 #[.slice A n c, .int .i64 i] w (ProofRes w (proofE xs i)) := by
  by_cases h0 : i < 0
  · have e : proofE xs i = ([], 2) := by rw [proofE, if_neg (by omega)]
    rw [e]
    clear e ht hs hz
    go_enter Tryd.func23, Tryd.ntmps23
    go_wp2
    go_ret2
    exact proofRes_nil w 2
  · by_cases h1 : (n : Int) ≤ i
    · have e : proofE xs i = ([], 2) := by rw [proofE, if_neg (by omega)]
      rw [e]
      clear e ht hs hz
      go_enter Tryd.func23, Tryd.ntmps23
      go_wp2
      go_ret2
      exact proofRes_nil w 2
    · have e : proofE xs i = (proof xs i.toNat, 0) := by rw [proofE, if_pos (by omega)]
      obtain ⟨j, rfl⟩ := Int.eq_ofNat_of_zero_le (show 0 ≤ i by omega)
      rw [e, Int.toNat_natCast]
      subst hn
      exact refproof_fuel xs.length A c xs j w (Nat.le_refl _) h1000 hc hcm (by omega) ht hs hz
theorem part_whole (xs : List ByteArray) (j : Nat) (h0 : 0 < j) (h : j ≤ xs.length) : extE xs j = (part xs j true, 0) := by
  rw [extE, if_neg (by omega)]
  by_cases he : j = xs.length
  · rw [if_pos (by omega), he, part_full]; rfl
  · rw [if_neg (by omega), Int.toNat_natCast]
set_option maxRecDepth 100000 in
theorem refextE_any (A : Option Addr) (c n : Nat) (xs : List ByteArray) (m : Int) (w : World) (hn : n = xs.length) (h1000 : n ≤ 1000) (hc : n ≤ c) (hcm : c ≤ 9223372036854775807) (ht : Tab w) (hs : Strs w w.heap.size A xs) (hz : ∀ s ∈ xs, s.size ≤ 1000) :
    Calls Tryd.prog 25 #[.slice A n c, .int .i64 m] w (ProofRes w (extE xs m)) := by
  by_cases h0 : m < 0
  · have e : extE xs m = ([], 2) := by rw [extE, if_pos (by omega)]
    rw [e]
    clear e ht hs hz
    go_enter Tryd.func25, Tryd.ntmps25
    go_wp2
    go_ret2
    exact proofRes_nil w 2
  · by_cases h1 : (n : Int) < m
    · have e : extE xs m = ([], 2) := by rw [extE, if_pos (by omega)]
      rw [e]
      clear e ht hs hz
      go_enter Tryd.func25, Tryd.ntmps25
      go_wp2
      go_ret2
      exact proofRes_nil w 2
    · obtain ⟨j, rfl⟩ := Int.eq_ofNat_of_zero_le (show 0 ≤ m by omega)
      by_cases h2 : j = 0
      · have e : extE xs j = ([], 0) := by rw [extE, if_neg (by omega), if_pos (by omega)]
        rw [e]
        clear e ht hs hz hn
        subst h2
        go_enter Tryd.func25, Tryd.ntmps25
        go_wp2
        go_ret2
        exact proofRes_nil w 0
      · have g0 : ((j : Int) == 0) = false := by rw [beq_eq_false_iff_ne]; omega
        have e := part_whole xs j (by omega) (by omega)
        have hp := refpart_any A c n xs j true w hn h1000 hc hcm (by omega) (by omega) ht hs hz
        rw [e]
        obtain ⟨L, hL⟩ : ∃ L, L = part xs j true := ⟨_, rfl⟩
        rw [← hL] at hp ⊢
        clear e ht hs hz hL hn
        go_enter Tryd.func25, Tryd.ntmps25
        go_wp2_with (go_at_call 46; refine hp.mono ?_; rintro e w1 ⟨v, rfl, o1, b1⟩)
        go_ret2
        exact ⟨_, rfl, o1, b1⟩
end Go.Proofs.YtjcamhekhfokhaaDoor
