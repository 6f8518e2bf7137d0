/- The reference's Left, Root and part return what the mathematics' text says. -/
import Derived.Test.YtjcamhekhfokhaaDoorRefS
import Derived.Test.YtjcamhekhfokhaaDoorWay
namespace Go.Proofs.YtjcamhekhfokhaaDoor
open Go.RowKit

set_option maxRecDepth 100000 in
theorem refleft_big (n : Nat) (h : 2 ≤ n) (hn : n ≤ 9223372036854775807) (w : World) :
    Calls Tryd.prog 44 #[.int .i64 n] w fun e w' => e = .returned (.int .i64 (half n)) ∧ w' = w := by
  go_enter Tryd.func44, Tryd.ntmps44
  go_wp2
  go_loopw [3] (fun v wr => ∃ j k : Nat, k = 2 ^ j ∧ k < n ∧ v = .int .i64 k ∧ wr = w) (fun v _ => n - (intOf v).toNat)
  case atStart => exact ⟨0, 1, rfl, by omega, rfl, rfl⟩
  case round =>
    obtain ⟨j, k, hk, hkn, rfl, rfl⟩ := hrel
    have hkp : 0 < k := by rw [hk]; exact Nat.two_pow_pos j
    obtain ⟨d, hd⟩ : ∃ d, d = n - k := ⟨_, rfl⟩
    have e1 : IntKind.i64.wrap ((n : Int) - (k : Int)) = (d : Int) := by rw [IntWalk.i64_in _ (by omega)]; omega
    have HK := Lib.hid hk
    by_cases hlt : k < d
    · clear hk
      have HD := Lib.hid hd; clear hd
      have e2 : IntKind.i64.wrap (2 * (k : Int)) = ((2 * k : Nat) : Int) := by have := HD.out; rw [IntWalk.i64_in _ (by omega)]; omega
      have j1 : (k : Int) < (d : Int) := by omega
      go_wp2
      have hd := HD.out
      refine ⟨⟨j + 1, 2 * k, by rw [HK.out, Nat.pow_succ, Nat.mul_comm], by omega, by simp⟩, ?_⟩
      simp only [intOf]; omega
    · have hh : half n = k := by rw [hk]; exact half_is (by omega) (by omega)
      have HD := Lib.hid hd; have HH := Lib.hid hh; clear hd hk hh
      have j1 : ¬ (k : Int) < (d : Int) := by omega
      go_wp2
      go_ret
      exact ⟨by rw [HH.out]; rfl, rfl⟩

theorem refleft_eq (n : Nat) (h : 2 ≤ n) (hn : n ≤ 9223372036854775807) (w : World) :
    Calls Tryd.prog 44 #[.int .i64 n] w fun e w' => e = .returned (.int .i64 (half n)) ∧ w = w' := (refleft_big n h hn w).mono fun _ _ h => ⟨h.1, h.2.symm⟩

set_option maxRecDepth 100000 in
set_option maxHeartbeats 1000000 in
theorem refroot_fuel : ∀ (f : Nat) (A : Option Addr) (c : Nat) (xs : List ByteArray) (w : World), xs.length ≤ f → xs.length ≤ c → c ≤ 9223372036854775807 → Tab w → Strs w w.heap.size A xs → (∀ s ∈ xs, s.size ≤ 1000) →
    Calls Tryd.prog 28 #[.slice A xs.length c] w fun e w' => e = .returned (.string (root xs)) ∧ Below w.heap.size w w' := by
  intro f
  induction f with
  | zero =>
    intro A c xs w hf hc hcm ht hs hz
    obtain rfl : xs = [] := List.eq_nil_of_length_eq_zero (by omega)
    have HT := Lib.hid ht; clear ht
    go_enter Tryd.func28, Tryd.ntmps28
    go_wp2_with (go_at_call 14; refine (refsum_any _ (by decide) _).mono ?_; rintro e w' ⟨rfl, hb⟩)
    go_ret
    exact ⟨rfl, hb⟩
  | succ f ih =>
    intro A c xs w hf hc hcm ht hs hz
    match xs, hs, hz, hf, hc with
    | [], hs, hz, hf, hc => exact ih A c [] w (by simp) (by simp) hcm ht hs hz
    | [s], hs, hz, hf, hc =>
      rcases hs with h | ⟨b, o, rfl, hB, hcell⟩
      · cases h
      have c0 : w.cell? ⟨b, o, none⟩ = some (.string s) := hcell 0 s rfl
      have ks := hz s (by simp)
      have HT := Lib.hid ht; clear ht hcell hz
      go_enter Tryd.func28, Tryd.ntmps28
      go_wp2_with (go_at_call 16; refine (refleaf_any _ (by omega) _).mono ?_; rintro e w' ⟨rfl, hb⟩)
      go_ret
      exact ⟨rfl, hb⟩
    | x :: y :: r, hs, hz, hf, hc =>
      obtain ⟨xs, hxs⟩ : ∃ xs, xs = x :: y :: r := ⟨_, rfl⟩
      rw [← hxs] at hs hz hf hc ⊢
      have h2 : 2 ≤ xs.length := by rw [hxs]; simp
      rcases hs with h | ⟨b, o, rfl, hB, hcell⟩
      · rw [h] at h2; simp at h2
      obtain ⟨n, hn⟩ : ∃ n, n = xs.length := ⟨_, rfl⟩
      obtain ⟨k, hk⟩ : ∃ k, k = half n := ⟨_, rfl⟩
      have k1 : k < n := by rw [hk]; exact half_lt (by omega)
      have k0 : 0 < k := by rw [hk]; exact half_pos n
      have hroot : root xs = nodeS (root (xs.take k)) (root (xs.drop k)) := by rw [root_split h2, ← hn, ← hk]
      have hfirst := fun w => refleft_eq n (by omega) (by omega) w
      rw [← hk] at hfirst
      have iht := fun w' (ht' : Tab w') (hs' : Strs w' w'.heap.size (some ⟨b, o, none⟩) (xs.take k)) => ih (some ⟨b, o, none⟩) c (xs.take k) w' (by simp; omega) (by simp; omega) hcm ht' hs' (fun s hs => hz s (List.mem_of_mem_take hs))
      have ihd := fun w' (ht' : Tab w') (hs' : Strs w' w'.heap.size (some ⟨b, o + k, none⟩) (xs.drop k)) => ih (some ⟨b, o + k, none⟩) (c - k) (xs.drop k) w' (by simp; omega) (by simp; omega) (by omega) ht' hs' (fun s hs => hz s (List.mem_of_mem_drop hs))
      have lt : (xs.take k).length = k := by simp; omega
      have ld : (xs.drop k).length = n - k := by simp [hn]
      rw [lt] at iht
      rw [ld] at ihd
      have st : Strs w w.heap.size (some ⟨b, o, none⟩) (xs.take k) := strs_take hB hcell k
      have sd : Strs w w.heap.size (some ⟨b, o + k, none⟩) (xs.drop k) := strs_drop hB hcell k
      have HT := Lib.hid ht; have HR := Lib.hid hroot; have ST := Lib.hid st; have SD := Lib.hid sd
      have hcn : n ≤ c := by omega
      have ck : ¬ c = k := by omega
      have hn2 : 2 ≤ n := by omega
      have i0 : (0 : Int) ≤ (k : Int) := by omega
      have i1 : (k : Int) ≤ (n : Int) := by omega
      have i2 : (k : Int) ≤ (c : Int) := by omega
      have i3 : (n : Int) ≤ (c : Int) := by omega
      rw [← hn]
      have g0 : ((n : Int) == 0) = false := by rw [beq_eq_false_iff_ne]; omega
      have g1 : ((n : Int) == 1) = false := by rw [beq_eq_false_iff_ne]; omega
      clear ht hroot st sd hcell hz ih hk hn lt ld hxs hf hc h2
      go_enter Tryd.func28, Tryd.ntmps28
      go_wp2_with (go_at_call 44; refine (hfirst _).mono ?_; rintro e w' ⟨rfl, rfl⟩)
      go_region_held3 (fun w' => Below w.heap.size w w') (first | go_keep | exact (Below.refl _ _).drew | exact Below.trans (by assumption) (Below.mono (by assumption) (Below.size (by assumption))))
        (first
          | (go_at_call 18; ((with_reducible refine (refnode_any _ _ (by rw [root_size]; decide) (by rw [root_size]; decide) _).mono ?_); rintro e w4 ⟨rfl, b4⟩))
          | (go_at_call 28; ((with_reducible refine (iht _ (HT.out.below (by assumption)) ((ST.out.below (by assumption)).more (Below.size (by assumption)))).mono ?_); rintro e w4 ⟨rfl, b4⟩))
          | (go_at_call 28; ((with_reducible refine (ihd _ (HT.out.below (by assumption)) ((SD.out.below (by assumption)).more (Below.size (by assumption)))).mono ?_); rintro e w4 ⟨rfl, b4⟩)))
      go_wp2
      go_ret
      exact ⟨by rw [HR.out]; rfl, by assumption⟩
theorem refroot_any (A : Option Addr) (c n : Nat) (xs : List ByteArray) (w : World) (hn : n = xs.length) (hc : n ≤ c) (hcm : c ≤ 9223372036854775807) (ht : Tab w) (hs : Strs w w.heap.size A xs) (hz : ∀ s ∈ xs, s.size ≤ 1000) :
    Calls Tryd.prog 28 #[.slice A n c] w fun e w' => e = .returned (.string (root xs)) ∧ Below w.heap.size w w' := by
  subst hn
  exact refroot_fuel xs.length A c xs w (Nat.le_refl _) hc hcm ht hs hz
set_option maxRecDepth 100000 in
set_option maxHeartbeats 1000000 in
theorem refpart_fuel : ∀ (f : Nat) (A : Option Addr) (c : Nat) (xs : List ByteArray) (m : Nat) (bb : Bool) (w : World), xs.length ≤ f → xs.length ≤ 1000 → xs.length ≤ c → c ≤ 9223372036854775807 → 0 < m → m ≤ xs.length → Tab w → Strs w w.heap.size A xs → (∀ s ∈ xs, s.size ≤ 1000) →
    Calls Tryd.prog 46 #[.slice A xs.length c, .int .i64 m, .bool bb] w (OwnStrs w (part xs m bb)) := by
  intro f
  induction f with
  | zero => intro A c xs m bb w hf h1000 hc hcm hm0 hm; omega
  | succ f ih =>
    intro A c xs m bb w hf h1000 hc hcm hm0 hm ht hs hz
    by_cases h1 : m = xs.length
    · subst h1
      rw [part_full]
      have g0 : ((xs.length : Int) == (xs.length : Int)) = true := by simp
      have HT := Lib.hid ht; have HS := Lib.hid hs; have HZ := Lib.hid hz
      clear ih ht hs hz
      cases bb
      · obtain ⟨n, hn⟩ : ∃ n, n = xs.length := ⟨_, rfl⟩
        obtain ⟨R, hR⟩ : ∃ r, r = root xs := ⟨_, rfl⟩
        have rt := fun w' ht' hs' => refroot_any A c n xs w' hn (by omega) hcm ht' hs' HZ.out
        rw [← hR] at rt ⊢
        rw [← hn] at g0 ⊢
        clear hn hR
        go_enter Tryd.func46, Tryd.ntmps46
        go_wp2_with (go_at_call 28; ((with_reducible refine (rt _ HT.out HS.out).mono ?_); rintro e w5 ⟨rfl, b5⟩))
        go_ret
        exact ⟨_, rfl, own_less (own_new w5 #[.string R] 1 rfl (by decide)) b5.size, b5.alloc b5.size _⟩
      · go_enter Tryd.func46, Tryd.ntmps46
        go_wp2
        go_ret
        exact ownStrs_nil w
    · have h2 : 2 ≤ xs.length := by omega
      have hmn : m < xs.length := by omega
      rcases hs with h | ⟨b, o, rfl, hB, hcell⟩
      · rw [h] at h2; simp at h2
      obtain ⟨i0, hi0, hz0, hz1, hz2⟩ := info_parts string_info
      obtain ⟨n, hn⟩ : ∃ n, n = xs.length := ⟨_, rfl⟩
      obtain ⟨k, hk⟩ : ∃ k, k = half n := ⟨_, rfl⟩
      have k1 : k < n := by rw [hk]; exact half_lt (by omega)
      have k0 : 0 < k := by rw [hk]; exact half_pos n
      have hfirst := fun w => refleft_eq n (by omega) (by omega) w
      rw [← hk] at hfirst
      have lt : (xs.take k).length = k := by simp; omega
      have ld : (xs.drop k).length = n - k := by simp [hn]
      have zt : ∀ s ∈ xs.take k, s.size ≤ 1000 := fun s hs => hz s (List.mem_of_mem_take hs)
      have zd : ∀ s ∈ xs.drop k, s.size ≤ 1000 := fun s hs => hz s (List.mem_of_mem_drop hs)
      have st : Strs w w.heap.size (some ⟨b, o, none⟩) (xs.take k) := strs_take hB hcell k
      have sd : Strs w w.heap.size (some ⟨b, o + k, none⟩) (xs.drop k) := strs_drop hB hcell k
      have rt := fun w' ht' hs' => refroot_any (some ⟨b, o, none⟩) c k (xs.take k) w' lt.symm (by omega) hcm ht' hs' zt
      have rd := fun w' ht' hs' => refroot_any (some ⟨b, o + k, none⟩) (c - k) (n - k) (xs.drop k) w' ld.symm (by omega) (by omega) ht' hs' zd
      obtain ⟨Rt, hRt⟩ : ∃ r, r = root (xs.take k) := ⟨_, rfl⟩
      obtain ⟨Rd, hRd⟩ : ∃ r, r = root (xs.drop k) := ⟨_, rfl⟩
      rw [← hRt] at rt
      rw [← hRd] at rd
      have ht' := ht
      have HT := Lib.hid ht; have ST := Lib.hid st; have SD := Lib.hid sd; have HRt := Lib.hid hRt; have HRd := Lib.hid hRd
      have i0' : (0 : Int) ≤ (k : Int) := by omega
      have i1 : (k : Int) ≤ (n : Int) := by omega
      have i2 : (k : Int) ≤ (c : Int) := by omega
      have i3 : (n : Int) ≤ (c : Int) := by omega
      have hcn : n ≤ c := by omega
      have ck : ¬ c = k := by omega
      have hn2 : 2 ≤ n := by omega
      have g1 : ((m : Int) == (n : Int)) = false := by rw [beq_eq_false_iff_ne]; omega
      have plt : ∀ j b, 0 < j → j ≤ k → (part (xs.take k) j b).length ≤ 1000 := fun j b h0 h1 => Nat.le_trans (part_small _ j b (by omega) h0 (by omega)) (by decide)
      have pld : ∀ j b, 0 < j → j ≤ n - k → (part (xs.drop k) j b).length ≤ 1000 := fun j b h0 h1 => Nat.le_trans (part_small _ j b (by omega) h0 (by omega)) (by decide)
      by_cases hik : m ≤ k
      · have iht := fun w' (ht' : Tab w') (hs' : Strs w' w'.heap.size (some ⟨b, o, none⟩) (xs.take k)) => ih (some ⟨b, o, none⟩) c (xs.take k) m bb w' (by omega) (by omega) (by omega) hcm hm0 (by omega) ht' hs' zt
        rw [lt] at iht
        have hp : part xs m bb = part (xs.take k) m bb ++ [Rd] := by rw [part_split hm0 hmn, ← hn, ← hk, if_pos hik, hRd]
        have pl := plt m bb hm0 hik
        obtain ⟨L, hL⟩ : ∃ L, L = part (xs.take k) m bb := ⟨_, rfl⟩
        rw [← hL] at iht hp pl
        have HP := Lib.hid hp
        have hik' : (m : Int) ≤ (k : Int) := by omega
        have m1 : L.length + 1 ≤ maxLen := by unfold maxLen; omega
        have m2 : (L.length + 1) * 16 ≤ 140737488355328 := by omega
        rw [← hn]
        clear hmn ht' ht st sd hcell hz ih hk hn lt ld hf hc h2 hp hRt hRd hL plt pld zt zd pl rt
        go_enter Tryd.func46, Tryd.ntmps46
        go_wp2_with (go_at_call 44; refine (hfirst _).mono ?_; rintro e w' ⟨rfl, rfl⟩)
        go_region_held3 (fun w' => Below w.heap.size w w') (first | go_keep | exact (Below.refl _ _).drew | exact Below.trans (by assumption) (Below.mono (by assumption) (Below.size (by assumption))) | exact keep_alloc (by assumption) _ | exact keep_grown (keep_alloc q5 _) hgrow (o5.alloc _))
          (first
            | (go_at_call 46; ((with_reducible refine (iht _ (HT.out.below (by assumption)) ((ST.out.below (by assumption)).more (Below.size (by assumption)))).mono ?_); rintro e w4 ⟨v4, rfl, o4, b4⟩; have o4' := own_base (w := w) o4 (by assumption)))
            | (go_at_call 28; ((with_reducible refine (rd _ (HT.out.below (by assumption)) ((SD.out.below (by assumption)).more (Below.size (by assumption)))).mono ?_); rintro e w5 ⟨rfl, b5⟩; have o5 := own_over o4' b5; have q5 := below_step (w := w) (by assumption) b5))
            | (refine step_append_lies _ (by rfl) _ _ _ (by rfl) w.heap.size 9 i0 _ 1 16 Tryd.underlying26 hi0 hz0 hz1 hz2 rfl (by decide) v4 L.length (L.map Value.string) (by rfl) (o5.alloc _)
                ⟨w5.heap.size, 0, none⟩ 1 1 [.string Rd] (by rfl) (by rfl) (World.news_of_block (cs := #[.string Rd]) (t := 9) (fr := (0, 0)) (heap_alloc_new w5 _)) (by simp [Value.oneCell'])
                (by decide) m1 m2 (keep_alloc q5 _).size (w5.heap.size + 1) (by simp) ?_; intro gg cap w6 hown6 hgrow hat hlt))
        go_wp2
        go_ret
        exact ⟨_, rfl, by rw [HP.out, List.length_append, List.map_append]; exact hown6, by assumption⟩
      · obtain ⟨q, hq⟩ : ∃ q, q = m - k := ⟨_, rfl⟩
        have ihd := fun w' (ht' : Tab w') (hs' : Strs w' w'.heap.size (some ⟨b, o + k, none⟩) (xs.drop k)) => ih (some ⟨b, o + k, none⟩) (c - k) (xs.drop k) q false w' (by omega) (by omega) (by omega) (by omega) (by omega) (by omega) ht' hs' zd
        rw [ld] at ihd
        have hp : part xs m bb = part (xs.drop k) q false ++ [Rt] := by rw [part_split hm0 hmn, ← hn, ← hk, if_neg hik, hRt, hq]
        have pl := pld q false (by omega) (by omega)
        obtain ⟨L, hL⟩ : ∃ L, L = part (xs.drop k) q false := ⟨_, rfl⟩
        rw [← hL] at ihd hp pl
        have HP := Lib.hid hp
        have hik' : (k : Int) < (m : Int) := by omega
        have m1 : L.length + 1 ≤ maxLen := by unfold maxLen; omega
        have m2 : (L.length + 1) * 16 ≤ 140737488355328 := by omega
        have wq : IntKind.i64.wrap ((m : Int) - (k : Int)) = (q : Int) := by rw [IntWalk.i64_in _ (by omega)]; omega
        rw [← hn]
        clear hmn ht' ht st sd hcell hz ih hk hn lt ld hf hc h2 hp hRt hRd hL plt pld zt zd pl rd hq
        go_enter Tryd.func46, Tryd.ntmps46
        go_wp2_with (go_at_call 44; refine (hfirst _).mono ?_; rintro e w' ⟨rfl, rfl⟩)
        go_region_held3 (fun w' => Below w.heap.size w w') (first | go_keep | exact (Below.refl _ _).drew | exact Below.trans (by assumption) (Below.mono (by assumption) (Below.size (by assumption))) | exact keep_alloc (by assumption) _ | exact keep_grown (keep_alloc q5 _) hgrow (o5.alloc _))
          (first
            | (go_at_call 46; ((with_reducible refine (ihd _ (HT.out.below (by assumption)) ((SD.out.below (by assumption)).more (Below.size (by assumption)))).mono ?_); rintro e w4 ⟨v4, rfl, o4, b4⟩; have o4' := own_base (w := w) o4 (by assumption)))
            | (go_at_call 28; ((with_reducible refine (rt _ (HT.out.below (by assumption)) ((ST.out.below (by assumption)).more (Below.size (by assumption)))).mono ?_); rintro e w5 ⟨rfl, b5⟩; have o5 := own_over o4' b5; have q5 := below_step (w := w) (by assumption) b5))
            | (refine step_append_lies _ (by rfl) _ _ _ (by rfl) w.heap.size 9 i0 _ 1 16 Tryd.underlying26 hi0 hz0 hz1 hz2 rfl (by decide) v4 L.length (L.map Value.string) (by rfl) (o5.alloc _)
                ⟨w5.heap.size, 0, none⟩ 1 1 [.string Rt] (by rfl) (by rfl) (World.news_of_block (cs := #[.string Rt]) (t := 9) (fr := (0, 0)) (heap_alloc_new w5 _)) (by simp [Value.oneCell'])
                (by decide) m1 m2 (keep_alloc q5 _).size (w5.heap.size + 1) (by simp) ?_; intro gg cap w6 hown6 hgrow hat hlt))
        go_wp2
        go_ret
        exact ⟨_, rfl, by rw [HP.out, List.length_append, List.map_append]; exact hown6, by assumption⟩
theorem refpart_any (A : Option Addr) (c n : Nat) (xs : List ByteArray) (m : Nat) (bb : Bool) (w : World) (hn : n = xs.length) (h1000 : n ≤ 1000) (hc : n ≤ c) (hcm : c ≤ 9223372036854775807) (h0 : 0 < m) (hm : m ≤ n) (ht : Tab w) (hs : Strs w w.heap.size A xs) (hz : ∀ s ∈ xs, s.size ≤ 1000) :
    Calls Tryd.prog 46 #[.slice A n c, .int .i64 m, .bool bb] w (OwnStrs w (part xs m bb)) := by
  subst hn
  exact refpart_fuel xs.length A c xs m bb w (Nat.le_refl _) h1000 hc hcm h0 hm ht hs hz
end Go.Proofs.YtjcamhekhfokhaaDoor
