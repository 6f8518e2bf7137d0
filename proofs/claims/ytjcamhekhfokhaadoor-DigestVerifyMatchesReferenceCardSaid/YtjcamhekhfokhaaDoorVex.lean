/- digest.VerifyExtension. -/
import Derived.Test.YtjcamhekhfokhaaDoorTwo
namespace Go.Proofs.YtjcamhekhfokhaaDoor
open Go.RowKit

/-- Whether an extension is accepted. -/
def verifyE (old : ByteArray) (m : Int) (rt : ByteArray) (n : Int) (p : List ByteArray) : Bool :=
  if 0 ≤ m ∧ m ≤ n ∧ allDig [old, rt] = true ∧ allDig p = true then
    if m = 0 then p.isEmpty && decide (old = root [])
    else if m = n then p.isEmpty && decide (old = rt)
    else (twoR old p.reverse m.toNat n.toNat true).2.2 && decide ((twoR old p.reverse m.toNat n.toNat true).1 = old) && decide ((twoR old p.reverse m.toNat n.toNat true).2.1 = rt)
  else false

theorem strs_new2 (w : World) (a b : ByteArray) : Strs (w.alloc (.cells #[.string a, .string b] 9)) (w.alloc (.cells #[.string a, .string b] 9)).heap.size (some ⟨w.heap.size, 0, none⟩) [a, b] := by
  refine .inr ⟨w.heap.size, 0, rfl, by simp, fun i s hi => ?_⟩
  rw [Nat.zero_add]
  refine (Row.made w _ _).at ?_
  match i, hi with
  | 0, hi => simpa using hi
  | 1, hi => simpa using hi
  | i + 2, hi => simp at hi

set_option maxRecDepth 100000 in
set_option maxHeartbeats 2000000 in
theorem verifyE_any (old rt : ByteArray) (ho : old.size ≤ 9223372036854775807) (hr : rt.size ≤ 9223372036854775807) (n m : Int) (n1 : -9223372036854775808 ≤ n) (n2 : n ≤ 9223372036854775807) (m1 : -9223372036854775808 ≤ m) (m2 : m ≤ 9223372036854775807) (A : Option Addr) (c k : Nat) (p : List ByteArray) (w : World)
    (hk : k = p.length) (hkc : k ≤ c) (hcm : c ≤ 9223372036854775807) (ht : Tab w) (hS : Strs w w.heap.size A p) (hz : ∀ x ∈ p, x.size ≤ 1000) :
    Calls Tryd.prog 31 #[.string old, .int .i64 m, .string rt, .int .i64 n, .slice A k c] w fun e w' => e = .returned (.bool (verifyE old m rt n p)) ∧ Below w.heap.size w w' := by
  by_cases h0 : m < 0
  · have e : verifyE old m rt n p = false := by rw [verifyE, if_neg (by omega)]
    rw [e]
    clear e ht hS hz hk
    go_enter Tryd.func31, Tryd.ntmps31
    go_wp2
    go_ret
    exact ⟨rfl, Below.refl _ _⟩
  by_cases h1 : n < m
  · have e : verifyE old m rt n p = false := by rw [verifyE, if_neg (by omega)]
    rw [e]
    clear e ht hS hz hk
    go_enter Tryd.func31, Tryd.ntmps31
    go_wp2
    go_ret
    exact ⟨rfl, Below.refl _ _⟩
  have ba : Below w.heap.size w (w.alloc (.cells #[.string old, .string rt] 9)) := (Below.refl _ _).alloc (Nat.le_refl _) _
  have hd1 := digs_any (some ⟨w.heap.size, 0, none⟩) 2 2 [old, rt] (w.alloc (.cells #[.string old, .string rt] 9)) rfl (by decide) (strs_new2 w old rt) (fun s hs => by simp at hs; rcases hs with rfl | rfl <;> assumption)
  by_cases d1 : allDig [old, rt] = true
  case neg =>
    have e : verifyE old m rt n p = false := by rw [verifyE, if_neg (fun h => d1 h.2.2.1)]
    have df : allDig [old, rt] = false := by simpa using d1
    rw [df] at hd1
    rw [e]
    clear e ht hS hz hk d1 df
    go_enter Tryd.func31, Tryd.ntmps31
    go_wp2_with (go_at_call 48; ((with_reducible refine hd1.mono ?_); rintro e w1 ⟨rfl, rfl⟩))
    go_ret
    exact ⟨rfl, ba⟩
  have hS2 : Strs (w.alloc (.cells #[.string old, .string rt] 9)) (w.alloc (.cells #[.string old, .string rt] 9)).heap.size A p := (hS.below ba).more ba.size
  have hd2 := digs_any A c k p (w.alloc (.cells #[.string old, .string rt] 9)) hk (by omega) hS2 (fun x hx => Nat.le_trans (hz x hx) (by decide))
  rw [d1] at hd1
  by_cases d2 : allDig p = true
  case neg =>
    have e : verifyE old m rt n p = false := by rw [verifyE, if_neg (fun h => d2 h.2.2.2)]
    have df : allDig p = false := by simpa using d2
    rw [df] at hd2
    rw [e]
    clear e ht hS hz hk d1 d2 df hS2
    go_enter Tryd.func31, Tryd.ntmps31
    go_wp2_with (first
      | (go_at_call 48; ((with_reducible refine hd1.mono ?_); rintro e w1 ⟨rfl, rfl⟩))
      | (go_at_call 48; ((with_reducible refine hd2.mono ?_); rintro e w1 ⟨rfl, rfl⟩)))
    go_ret
    exact ⟨rfl, ba⟩
  rw [d2] at hd2
  have ho32 : old.size ≤ 1000 := by
    have : old.size = 32 ∧ rt.size = 32 := by simpa [allDig] using d1
    omega
  have e0 : verifyE old m rt n p = (if m = 0 then p.isEmpty && decide (old = root []) else if m = n then p.isEmpty && decide (old = rt)
    else (twoR old p.reverse m.toNat n.toNat true).2.2 && decide ((twoR old p.reverse m.toNat n.toNat true).1 = old) && decide ((twoR old p.reverse m.toNat n.toNat true).2.1 = rt)) := by rw [verifyE, if_pos ⟨by omega, by omega, d1, d2⟩]
  have ta := ht.below ba
  have hpe : p.isEmpty = decide (k = 0) := by rw [hk]; cases p <;> simp
  by_cases hm0 : m = 0
  · rw [e0, if_pos hm0]
    subst hm0
    rw [hpe]
    have rt0 := fun w ht => root_any none 0 0 [] w rfl (by decide) (by decide) ht (.inl rfl) (by simp)
    obtain ⟨R, hR⟩ : ∃ R, R = root [] := ⟨_, rfl⟩
    rw [← hR] at rt0 ⊢
    have TA := Lib.hid ta
    clear e0 ht hS hz hk d1 d2 hS2 ta hpe hR
    by_cases hk0 : k = 0
    · subst hk0
      by_cases hor : old = R
      · have g := str_eq hor
        rw [decide_eq_true hor]
        clear hor
        go_enter Tryd.func31, Tryd.ntmps31
        go_wp2_with (first
          | (go_at_call 48; ((with_reducible refine hd1.mono ?_); rintro e w1 ⟨rfl, rfl⟩))
          | (go_at_call 48; ((with_reducible refine hd2.mono ?_); rintro e w1 ⟨rfl, rfl⟩))
          | (go_at_call 27; ((with_reducible refine (rt0 _ TA.out).mono ?_); rintro e w2 ⟨rfl, b2⟩)))
        go_ret
        exact ⟨rfl, below_step ba b2⟩
      · have g := str_ne hor
        rw [decide_eq_false hor]
        clear hor
        go_enter Tryd.func31, Tryd.ntmps31
        go_wp2_with (first
          | (go_at_call 48; ((with_reducible refine hd1.mono ?_); rintro e w1 ⟨rfl, rfl⟩))
          | (go_at_call 48; ((with_reducible refine hd2.mono ?_); rintro e w1 ⟨rfl, rfl⟩))
          | (go_at_call 27; ((with_reducible refine (rt0 _ TA.out).mono ?_); rintro e w2 ⟨rfl, b2⟩)))
        go_ret
        exact ⟨rfl, below_step ba b2⟩
    · have gk : ((k : Int) == 0) = false := by rw [beq_eq_false_iff_ne]; omega
      rw [decide_eq_false hk0]
      go_enter Tryd.func31, Tryd.ntmps31
      go_wp2_with (first
        | (go_at_call 48; ((with_reducible refine hd1.mono ?_); rintro e w1 ⟨rfl, rfl⟩))
        | (go_at_call 48; ((with_reducible refine hd2.mono ?_); rintro e w1 ⟨rfl, rfl⟩)))
      go_ret
      exact ⟨rfl, ba⟩
  have gm : (m == 0) = false := by rw [beq_eq_false_iff_ne]; exact hm0
  by_cases hmn : m = n
  · rw [e0, if_neg hm0, if_pos hmn]
    subst hmn
    rw [hpe]
    have gmm : (m == m) = true := by simp
    clear e0 ht hS hz hk d1 d2 hS2 ta hpe hm0
    by_cases hk0 : k = 0
    · subst hk0
      by_cases hor : old = rt
      · have g := str_eq hor
        rw [decide_eq_true hor]
        clear hor
        go_enter Tryd.func31, Tryd.ntmps31
        go_wp2_with (first
          | (go_at_call 48; ((with_reducible refine hd1.mono ?_); rintro e w1 ⟨rfl, rfl⟩))
          | (go_at_call 48; ((with_reducible refine hd2.mono ?_); rintro e w1 ⟨rfl, rfl⟩)))
        go_ret
        exact ⟨rfl, ba⟩
      · have g := str_ne hor
        rw [decide_eq_false hor]
        clear hor
        go_enter Tryd.func31, Tryd.ntmps31
        go_wp2_with (first
          | (go_at_call 48; ((with_reducible refine hd1.mono ?_); rintro e w1 ⟨rfl, rfl⟩))
          | (go_at_call 48; ((with_reducible refine hd2.mono ?_); rintro e w1 ⟨rfl, rfl⟩)))
        go_ret
        exact ⟨rfl, ba⟩
    · have gk : ((k : Int) == 0) = false := by rw [beq_eq_false_iff_ne]; omega
      rw [decide_eq_false hk0]
      go_enter Tryd.func31, Tryd.ntmps31
      go_wp2_with (first
        | (go_at_call 48; ((with_reducible refine hd1.mono ?_); rintro e w1 ⟨rfl, rfl⟩))
        | (go_at_call 48; ((with_reducible refine hd2.mono ?_); rintro e w1 ⟨rfl, rfl⟩)))
      go_ret
      exact ⟨rfl, ba⟩
  have gn : (m == n) = false := by rw [beq_eq_false_iff_ne]; exact hmn
  rw [e0, if_neg hm0, if_neg hmn]
  obtain ⟨N, rfl⟩ := Int.eq_ofNat_of_zero_le (show 0 ≤ n by omega)
  obtain ⟨M, rfl⟩ := Int.eq_ofNat_of_zero_le (show 0 ≤ m by omega)
  have htw := two_any old ho32 p.reverse A c k M N true _ (by simpa using hk) hkc hcm (by omega) (by omega) (by omega) ta (by rw [List.reverse_reverse]; exact hS2) (fun x hx => hz x (by simpa using hx))
  rw [Int.toNat_natCast, Int.toNat_natCast]
  obtain ⟨V, hV⟩ : ∃ V, V = twoR old p.reverse M N true := ⟨_, rfl⟩
  rw [← hV] at htw ⊢
  obtain ⟨v, u, ok⟩ := V
  dsimp only [tripV] at htw ⊢
  have a0 : (0 : Int) ≤ (M : Int) := by omega
  have a1 : (M : Int) ≤ (N : Int) := by omega
  clear e0 ht hS hz hk d1 d2 hS2 ta hpe hm0 hmn hV
  cases ok
  · go_enter Tryd.func31, Tryd.ntmps31
    go_wp2_with (first
      | (go_at_call 48; ((with_reducible refine hd1.mono ?_); rintro e w1 ⟨rfl, rfl⟩))
      | (go_at_call 48; ((with_reducible refine hd2.mono ?_); rintro e w1 ⟨rfl, rfl⟩))
      | (go_at_call 52; ((with_reducible refine htw.mono ?_); rintro e w2 ⟨rfl, b2⟩)))
    go_ret
    exact ⟨rfl, below_step ba b2⟩
  · by_cases hv : v = old
    · by_cases hu : u = rt
      · have g1 := str_eq hv
        have g2 := str_eq hu
        rw [decide_eq_true hv, decide_eq_true hu]
        clear hv hu
        go_enter Tryd.func31, Tryd.ntmps31
        go_wp2_with (first
          | (go_at_call 48; ((with_reducible refine hd1.mono ?_); rintro e w1 ⟨rfl, rfl⟩))
          | (go_at_call 48; ((with_reducible refine hd2.mono ?_); rintro e w1 ⟨rfl, rfl⟩))
          | (go_at_call 52; ((with_reducible refine htw.mono ?_); rintro e w2 ⟨rfl, b2⟩)))
        go_ret
        exact ⟨rfl, below_step ba b2⟩
      · have g1 := str_eq hv
        have g2 := str_ne hu
        rw [decide_eq_true hv, decide_eq_false hu]
        clear hv hu
        go_enter Tryd.func31, Tryd.ntmps31
        go_wp2_with (first
          | (go_at_call 48; ((with_reducible refine hd1.mono ?_); rintro e w1 ⟨rfl, rfl⟩))
          | (go_at_call 48; ((with_reducible refine hd2.mono ?_); rintro e w1 ⟨rfl, rfl⟩))
          | (go_at_call 52; ((with_reducible refine htw.mono ?_); rintro e w2 ⟨rfl, b2⟩)))
        go_ret
        exact ⟨rfl, below_step ba b2⟩
    · have g1 := str_ne hv
      rw [decide_eq_false hv]
      clear hv
      go_enter Tryd.func31, Tryd.ntmps31
      go_wp2_with (first
        | (go_at_call 48; ((with_reducible refine hd1.mono ?_); rintro e w1 ⟨rfl, rfl⟩))
        | (go_at_call 48; ((with_reducible refine hd2.mono ?_); rintro e w1 ⟨rfl, rfl⟩))
        | (go_at_call 52; ((with_reducible refine htw.mono ?_); rintro e w2 ⟨rfl, b2⟩)))
      go_ret
      exact ⟨rfl, below_step ba b2⟩
end Go.Proofs.YtjcamhekhfokhaaDoor
