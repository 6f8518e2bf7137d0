/- The reference's Digests, value and Verify. -/
import Derived.Test.YtjcamhekhfokhaaDoorRefT
import Derived.Test.YtjcamhekhfokhaaDoorVal
namespace Go.Proofs.YtjcamhekhfokhaaDoor
open Go.RowKit

set_option maxRecDepth 100000 in
theorem refdigs_any (A : Option Addr) (c n : Nat) (xs : List ByteArray) (w : World) (hn : n = xs.length) (hnm : n ≤ 9223372036854775807) (hs : Strs w w.heap.size A xs) (hz : ∀ s ∈ xs, s.size ≤ 9223372036854775807) :
    Calls Tryd.prog 50 #[.slice A n c] w fun e w' => e = .returned (.bool (allDig xs)) ∧ w' = w := by
  obtain ⟨D, hD⟩ : ∃ d, d = allDig xs := ⟨_, rfl⟩
  rw [← hD]
  have HD := Lib.hid hD; have HS := Lib.hid hs; have HN := Lib.hid hn; have HZ := Lib.hid hz
  clear hD hs hn hz
  go_enter Tryd.func50, Tryd.ntmps50
  go_wp2
  go_loop [3] (fun p => ∃ j : Nat, p = .int .i64 j ∧ j ≤ n ∧ allDig xs = allDig (xs.drop j)) (fun p => n - (intOf p).toNat)
  case atStart => exact ⟨0, rfl, by omega, rfl⟩
  case round =>
    obtain ⟨j, rfl, hj, hd⟩ := hrel
    by_cases hlt : j < n
    · have hjx : j < xs.length := by have := HN.out; omega
      have hs' := HS.out
      rcases hs' with h | ⟨b, o, rfl, hB, hc⟩
      · rw [h] at hjx; simp at hjx
      have cj := hc j xs[j] (List.getElem?_eq_getElem hjx)
      have kz := HZ.out xs[j] (List.getElem_mem hjx)
      have hdrop : xs.drop j = xs[j] :: xs.drop (j + 1) := List.drop_eq_getElem_cons hjx
      rw [hdrop] at hd
      obtain ⟨s, hsj⟩ : ∃ s, s = xs[j] := ⟨_, rfl⟩
      rw [← hsj] at cj kz hd
      by_cases h32 : s.size = 32
      · have e : allDig (s :: xs.drop (j + 1)) = allDig (xs.drop (j + 1)) := by simp [allDig, h32]
        rw [e] at hd
        have g : ((s.size : Int) == 32) = true := by simp; omega
        have g' : ((s.size : Int) != 32) = false := by rw [bne, g]; rfl
        have HX := Lib.hid hd
        clear hc hd hdrop hsj e h32 HS
        go_wp2
        go_round
        case rel => exact ⟨j + 1, by go_num, by omega, HX.out⟩
        case measure => simp [intOf]; omega
      · have e : allDig (s :: xs.drop (j + 1)) = false := by simp [allDig, h32]
        rw [e] at hd
        have g : ((s.size : Int) == 32) = false := by rw [beq_eq_false_iff_ne]; omega
        have g' : ((s.size : Int) != 32) = true := by rw [bne, g]; rfl
        have HX := Lib.hid hd
        clear hc hd hdrop hsj e h32 HS
        go_wp2
        go_ret
        exact ⟨ret_bool (by rw [HD.out, HX.out]), rfl⟩
    · obtain rfl : j = n := by omega
      rw [List.drop_of_length_le (by rw [← HN.out]; omega)] at hd
      have HX := Lib.hid hd
      clear hd
      go_wp2
      go_ret
      exact ⟨ret_bool (by rw [HD.out, HX.out]; rfl), rfl⟩


set_option maxRecDepth 100000 in
set_option maxHeartbeats 2000000 in
theorem refvalue_any (s : ByteArray) (hs : s.size ≤ 1000) : ∀ (r : List ByteArray) (A : Option Addr) (c k n i : Nat) (w : World), k = r.length → k ≤ c → c ≤ 9223372036854775807 → 1 ≤ n → n ≤ 9223372036854775807 → i < n → Strs w w.heap.size A r.reverse → (∀ x ∈ r, x.size ≤ 1000) →
    Calls Tryd.prog 51 #[.int .i64 n, .int .i64 i, .string s, .slice A k c] w fun e w' => e = .returned (pairV (valueR s r n i)) ∧ Below w.heap.size w w' := by
  intro r
  induction r with
  | nil =>
    intro A c k n i w hk hc hcm hn1 hnm hi hS hz
    simp at hk
    subst hk
    by_cases h1 : n = 1
    · have e : valueR s [] n i = (leafS s, true) := by rw [valueR, if_pos h1]
      rw [e, h1]
      clear hS hz e
      go_enter Tryd.func51, Tryd.ntmps51
      go_wp2_with (go_at_call 16; refine (refleaf_any s (by omega) _).mono ?_; rintro e w1 ⟨rfl, b1⟩)
      go_ret2
      exact ⟨rfl, b1⟩
    · have e : valueR s [] n i = (⟨#[]⟩, false) := by rw [valueR, if_neg h1]
      have g1 : ((n : Int) == 1) = false := by rw [beq_eq_false_iff_ne]; omega
      rw [e]
      clear hS hz e
      go_enter Tryd.func51, Tryd.ntmps51
      go_wp2
      go_ret2
      exact ⟨rfl, Below.refl _ _⟩
  | cons x r ih =>
    intro A c k n i w hk hc hcm hn1 hnm hi hS hz
    have hk' : k = r.length + 1 := by simpa using hk
    obtain ⟨q, hq⟩ : ∃ q, q = r.length := ⟨_, rfl⟩
    have eq1 : IntKind.i64.wrap ((k : Int) - 1) = (q : Int) := by rw [IntWalk.i64_in _ (by omega)]; omega
    have q0 : (0 : Int) ≤ (q : Int) := by omega
    have q1 : (q : Int) < (k : Int) := by omega
    have q2 : (q : Int) ≤ (c : Int) := by omega
    have q3 : (k : Int) ≤ (c : Int) := by omega
    by_cases h1 : n = 1
    · have e : valueR s (x :: r) n i = (leafS s, false) := by rw [valueR, if_pos h1]
      rw [e, h1]
      clear hS hz e hk hk' ih hq
      go_enter Tryd.func51, Tryd.ntmps51
      go_wp2_with (go_at_call 16; refine (refleaf_any s (by omega) _).mono ?_; rintro e w1 ⟨rfl, b1⟩)
      go_ret2
      exact ⟨rfl, b1⟩
    · have g1 : ((n : Int) == 1) = false := by rw [beq_eq_false_iff_ne]; omega
      rw [List.reverse_cons] at hS
      obtain ⟨b, o, rfl, hB⟩ := strs_some hS (by simp)
      have hcell := strs_cell hS
      have cq : w.cell? ⟨b, o + q, none⟩ = some (.string x) := hcell q x (by rw [hq]; simp)
      have hst : Strs w w.heap.size (some ⟨b, o, none⟩) r.reverse := .inr ⟨b, o, rfl, hB, fun i s hi => hcell i s (by
        rw [List.getElem?_append_left (by
          rcases Nat.lt_or_ge i r.reverse.length with h | h
          · exact h
          · rw [List.getElem?_eq_none h] at hi; cases hi)]; exact hi)⟩
      have hx := hz x (by simp)
      have hzr : ∀ y ∈ r, y.size ≤ 1000 := fun y hy => hz y (by simp [hy])
      obtain ⟨h, hh⟩ : ∃ h, h = half n := ⟨_, rfl⟩
      have k1 : h < n := by rw [hh]; exact half_lt (by omega)
      have k0 : 0 < h := by rw [hh]; exact half_pos n
      have hfirst := fun w => refleft_eq n (by omega) (by omega) w
      rw [← hh] at hfirst
      have HS := Lib.hid hst; have CQ := Lib.hid cq
      by_cases hlt : i < h
      · have e : valueR s (x :: r) n i = (nodeS (valueR s r h i).1 x, (valueR s r h i).2) := by rw [valueR, if_neg h1, ← hh, if_pos hlt]
        have hrec := fun W hSW => ih (some ⟨b, o, none⟩) c q h i W hq (by omega) hcm (by omega) (by omega) hlt hSW hzr
        have hv := valueR_size s r h i
        rw [e]
        obtain ⟨V, hV⟩ : ∃ V, V = valueR s r h i := ⟨_, rfl⟩
        rw [← hV] at hrec hv ⊢
        obtain ⟨v, ok⟩ := V
        dsimp only [pairV] at hrec hv ⊢
        have hlt' : (i : Int) < (h : Int) := by omega
        clear hS hz hzr e hk hk' ih hst hcell hh hq hV cq
        go_enter Tryd.func51, Tryd.ntmps51
        go_wp2_with fail
        refine (hfirst _).mono ?_
        rintro e w' ⟨rfl, rfl⟩
        go_wp2_with fail
        refine (hrec _ HS.out).mono ?_
        rintro e w2 ⟨rfl, b2⟩
        have c2 := (b2.cell (p := ⟨b, o + q, none⟩) hB).trans CQ.out
        go_wp2_with fail
        refine (refnode_any v x (by omega) (by omega) _).mono ?_
        rintro e w3 ⟨rfl, b3⟩
        go_wp2_with fail
        go_ret2
        exact ⟨rfl, below_step b2 b3⟩
      · obtain ⟨n', hn'⟩ : ∃ n', n' = n - h := ⟨_, rfl⟩
        obtain ⟨i', hi'⟩ : ∃ i', i' = i - h := ⟨_, rfl⟩
        have e : valueR s (x :: r) n i = (nodeS x (valueR s r n' i').1, (valueR s r n' i').2) := by rw [valueR, if_neg h1, ← hh, if_neg hlt, ← hn', ← hi']
        have hrec := fun W hSW => ih (some ⟨b, o, none⟩) c q n' i' W hq (by omega) hcm (by omega) (by omega) (by omega) hSW hzr
        have hv := valueR_size s r n' i'
        rw [e]
        obtain ⟨V, hV⟩ : ∃ V, V = valueR s r n' i' := ⟨_, rfl⟩
        rw [← hV] at hrec hv ⊢
        obtain ⟨v, ok⟩ := V
        dsimp only [pairV] at hrec hv ⊢
        have hlt' : (h : Int) ≤ (i : Int) := by omega
        have wn : IntKind.i64.wrap ((n : Int) - (h : Int)) = (n' : Int) := by rw [IntWalk.i64_in _ (by omega)]; omega
        have wi : IntKind.i64.wrap ((i : Int) - (h : Int)) = (i' : Int) := by rw [IntWalk.i64_in _ (by omega)]; omega
        have wn' : (n : Int) - (h : Int) = (n' : Int) := by omega
        have wi' : (i : Int) - (h : Int) = (i' : Int) := by omega
        clear hn' hi' hS hz hzr e hk hk' ih hst hcell hh hq hV cq
        go_enter Tryd.func51, Tryd.ntmps51
        go_wp2_with fail
        refine (hfirst _).mono ?_
        rintro e w' ⟨rfl, rfl⟩
        go_wp2_with fail
        refine (hrec _ HS.out).mono ?_
        rintro e w2 ⟨rfl, b2⟩
        have c2 := (b2.cell (p := ⟨b, o + q, none⟩) hB).trans CQ.out
        go_wp2_with fail
        refine (refnode_any x v (by clear wn wi; omega) (by clear wn wi; omega) _).mono ?_
        rintro e w3 ⟨rfl, b3⟩
        go_wp2_with fail
        go_ret2
        exact ⟨rfl, below_step b2 b3⟩

set_option maxRecDepth 100000 in
set_option maxHeartbeats 1000000 in
theorem refverify_any (rt : ByteArray) (n i : Int) (n1 : -9223372036854775808 ≤ n) (n2 : n ≤ 9223372036854775807) (i1 : -9223372036854775808 ≤ i) (i2 : i ≤ 9223372036854775807) (s : ByteArray) (hs : s.size ≤ 1000) (A : Option Addr) (c k : Nat) (p : List ByteArray) (w : World)
    (hk : k = p.length) (hkc : k ≤ c) (hcm : c ≤ 9223372036854775807) (ht : Tab w) (hS : Strs w w.heap.size A p) (hz : ∀ x ∈ p, x.size ≤ 1000) :
    Calls Tryd.prog 30 #[.string rt, .int .i64 n, .int .i64 i, .string s, .slice A k c] w fun e w' => e = .returned (.bool (verifyB rt n i s p)) ∧ Below w.heap.size w w' := by
  have hd0 := refdigs_any A c k p w hk (by omega) hS (fun x hx => Nat.le_trans (hz x hx) (by decide))
  by_cases h0 : i < 0
  · have e : verifyB rt n i s p = false := by rw [verifyB, if_neg (by omega)]
    rw [e]
    clear e ht hS hz hk
    go_enter Tryd.func30, Tryd.ntmps30
    go_wp2_with fail
    refine hd0.mono ?_
    rintro e w1 ⟨rfl, rfl⟩
    go_wp2
    go_ret
    exact ⟨rfl, Below.refl _ _⟩
  · by_cases h1 : n ≤ i
    · have e : verifyB rt n i s p = false := by rw [verifyB, if_neg (by omega)]
      rw [e]
      clear e ht hS hz hk
      go_enter Tryd.func30, Tryd.ntmps30
      go_wp2_with fail
      refine hd0.mono ?_
      rintro e w1 ⟨rfl, rfl⟩
      go_wp2
      go_ret
      exact ⟨rfl, Below.refl _ _⟩
    · have hd := hd0
      clear hd0
      by_cases hdig : allDig p = true
      · rw [hdig] at hd
        obtain ⟨N, rfl⟩ := Int.eq_ofNat_of_zero_le (show 0 ≤ n by omega)
        obtain ⟨I, rfl⟩ := Int.eq_ofNat_of_zero_le (show 0 ≤ i by omega)
        have hv := refvalue_any s hs p.reverse A c k N I w (by simpa using hk) hkc hcm (by omega) (by omega) (by omega) (by rw [List.reverse_reverse]; exact hS) (fun x hx => hz x (by simpa using hx))
        have e : verifyB rt N I s p = ((valueR s p.reverse N I).2 && decide ((valueR s p.reverse N I).1 = rt)) := by rw [verifyB, if_pos ⟨by omega, by omega, hdig⟩, Int.toNat_natCast, Int.toNat_natCast]
        rw [e]
        obtain ⟨V, hV⟩ : ∃ V, V = valueR s p.reverse N I := ⟨_, rfl⟩
        rw [← hV] at hv ⊢
        obtain ⟨v, ok⟩ := V
        dsimp only [pairV] at hv ⊢
        have a0 : (0 : Int) ≤ (I : Int) := by omega
        clear e ht hS hz hk hdig hV
        cases ok
        · go_enter Tryd.func30, Tryd.ntmps30
          go_wp2_with (first
            | (go_at_call 50; ((with_reducible refine hd.mono ?_); rintro e w1 ⟨rfl, rfl⟩))
            | (go_at_call 51; ((with_reducible refine hv.mono ?_); rintro e w2 ⟨rfl, b2⟩)))
          go_ret
          exact ⟨rfl, b2⟩
        · by_cases hvr : v = rt
          · have g := str_eq hvr
            have gd : decide (v = rt) = true := by simpa using hvr
            rw [gd]
            clear gd
            clear hvr
            go_enter Tryd.func30, Tryd.ntmps30
            go_wp2_with (first
              | (go_at_call 50; ((with_reducible refine hd.mono ?_); rintro e w1 ⟨rfl, rfl⟩))
              | (go_at_call 51; ((with_reducible refine hv.mono ?_); rintro e w2 ⟨rfl, b2⟩)))
            go_ret
            exact ⟨rfl, b2⟩
          · have g := str_ne hvr
            have gd : decide (v = rt) = false := by simpa using hvr
            rw [gd]
            clear gd hvr
            go_enter Tryd.func30, Tryd.ntmps30
            go_wp2_with (first
              | (go_at_call 50; ((with_reducible refine hd.mono ?_); rintro e w1 ⟨rfl, rfl⟩))
              | (go_at_call 51; ((with_reducible refine hv.mono ?_); rintro e w2 ⟨rfl, b2⟩)))
            go_ret
            exact ⟨rfl, b2⟩
      · have e : verifyB rt n i s p = false := by rw [verifyB, if_neg (fun h => hdig h.2.2)]
        rw [e]
        have hdf : allDig p = false := by simpa using hdig
        rw [hdf] at hd
        clear e ht hS hz hk hdig hdf
        go_enter Tryd.func30, Tryd.ntmps30
        go_wp2_with (go_at_call 50; ((with_reducible refine hd.mono ?_); rintro e w1 ⟨rfl, rfl⟩))
        go_ret
        exact ⟨rfl, Below.refl _ _⟩
end Go.Proofs.YtjcamhekhfokhaaDoor
