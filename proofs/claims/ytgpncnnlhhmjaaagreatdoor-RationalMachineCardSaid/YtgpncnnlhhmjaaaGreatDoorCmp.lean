/- compare: naturals compare as the numbers do. -/
import Derived.Test.YtgpncnnlhhmjaaaGreatDoorAdd
namespace Go.Proofs.YtgpncnnlhhmjaaaGreatDoor
open Go.RowKit

set_option maxRecDepth 100000 in
set_option maxHeartbeats 1000000 in
theorem isNaN_any (x : Int) (w : World) : Calls Tryz.prog 150 #[.int .i64 x] w fun e w' => e = .returned (.bool false) ∧ w' = w := by
  go_enter Tryz.func150, Tryz.ntmps150
  go_wp2
  go_ret
  exact ⟨by simp, rfl⟩
set_option maxRecDepth 100000 in
set_option maxHeartbeats 1000000 in
theorem cmpI_any (x y : Int) (w : World) : Calls Tryz.prog 131 #[.int .i64 x, .int .i64 y] w fun e w' => e = .returned (.int .i64 (cmpI x y)) ∧ w' = w := by
  have hc : cmpI x y = if x < y then -1 else if y < x then 1 else 0 := rfl
  have HC := Lib.hid hc
  obtain ⟨r, hr⟩ : ∃ r, r = cmpI x y := ⟨_, rfl⟩
  have HR := Lib.hid hr
  rw [← hr]
  clear hc hr
  go_enter Tryz.func131, Tryz.ntmps131
  rcases Int.lt_trichotomy x y with h | h | h
  · have e1 : r = -1 := by rw [HR.out, HC.out, if_pos h]
    subst e1
    go_wp2_with (first | (go_at_call 150; (with_reducible refine (isNaN_any _ _).mono ?_); rintro e w' ⟨rfl, rfl⟩) | fail)
    go_ret
    exact ⟨rfl, rfl⟩
  · have e1 : r = 0 := by rw [HR.out, HC.out, if_neg (by omega), if_neg (by omega)]
    subst e1
    subst h
    go_wp2_with (first | (go_at_call 150; (with_reducible refine (isNaN_any _ _).mono ?_); rintro e w' ⟨rfl, rfl⟩) | fail)
    go_ret
    exact ⟨rfl, rfl⟩
  · have e1 : r = 1 := by rw [HR.out, HC.out, if_neg (by omega), if_pos h]
    have h' : ¬ x < y := by omega
    subst e1
    go_wp2_with (first | (go_at_call 150; (with_reducible refine (isNaN_any _ _).mono ?_); rintro e w' ⟨rfl, rfl⟩) | fail)
    go_ret
    exact ⟨rfl, rfl⟩

theorem cmpL_nil : cmpL [] [] = 0 := rfl
theorem cmpL_drop {l r : List Int} {j : Nat} {x y : Int} (hx : l[j]? = some x) (hy : r[j]? = some y) : cmpL (l.drop j) (r.drop j) = if cmpI x y = 0 then cmpL (l.drop (j + 1)) (r.drop (j + 1)) else cmpI x y := by
  have dr : ∀ {l : List Int} {x : Int}, l[j]? = some x → l.drop j = x :: l.drop (j + 1) := by
    intro l x hx
    have hi : j < l.length := by
      rcases Nat.lt_or_ge j l.length with h1 | h1
      · exact h1
      · rw [List.getElem?_eq_none h1] at hx; cases hx
    rw [List.drop_eq_getElem_cons hi]
    congr 1
    rw [List.getElem?_eq_getElem hi] at hx; exact Option.some.inj hx
  rw [dr hx, dr hy]; rfl

set_option maxRecDepth 100000 in
set_option maxHeartbeats 4000000 in
theorem sliceCmp_any (A1 A2 : Option Addr) (L c1 c2 : Nat) (l1 l2 : List Int) (B : Nat) (m1 : L ≤ 1000) (w : World) (e1 : L = l1.length) (e2 : L = l2.length) (h1 : Ints w B A1 l1) (h2 : Ints w B A2 l2) :
    Calls Tryz.prog 132 #[.slice A1 L c1, .slice A2 L c2] w fun e w' => e = .returned (.int .i64 (cmpL l1 l2)) ∧ w' = w := by
  obtain ⟨R, hR⟩ : ∃ R, R = cmpL l1 l2 := ⟨_, rfl⟩
  rw [← hR]
  have E1 := Lib.hid e1; have E2 := Lib.hid e2; have H1 := Lib.hid h1; have H2 := Lib.hid h2; have HR := Lib.hid hR
  clear e1 e2 h1 h2 hR
  go_enter Tryz.func132, Tryz.ntmps132
  go_wp2
  go_loop [5, 6, 7, 8, 11] (fun _ _ _ _ p => ∃ j : Nat, p = .int .i64 j ∧ j ≤ L ∧ Hid (R = cmpL (l1.drop j) (l2.drop j))) (fun _ _ _ _ p => L - (intOf p).toNat)
  case atStart => exact ⟨0, rfl, by omega, HR⟩
  case round =>
    obtain ⟨j, rfl, hj, HJ⟩ := hrel
    by_cases hlt : j < L
    · obtain ⟨x, hx⟩ : ∃ x, l1[j]? = some x := ⟨_, List.getElem?_eq_getElem (by rw [← E1.out]; exact hlt)⟩
      obtain ⟨y, hy⟩ : ∃ y, l2[j]? = some y := ⟨_, List.getElem?_eq_getElem (by rw [← E2.out]; exact hlt)⟩
      have hd := cmpL_drop hx hy
      rcases H1.out with hn | ⟨b1, o1, rfl, _, hc1⟩
      · rw [hn] at hx; simp at hx
      rcases H2.out with hn | ⟨b2, o2, rfl, _, hc2⟩
      · rw [hn] at hy; simp at hy
      have k1 := hc1 j x hx
      have k2 := hc2 j y hy
      have HD := Lib.hid hd
      have jl : (j : Int) < (L : Int) := by omega
      clear hx hy hd hc1 hc2
      obtain ⟨C, hC⟩ : ∃ C, C = cmpI x y := ⟨_, rfl⟩
      have cc := fun W => cmpI_any x y W
      rw [← hC] at cc HD
      have HC := Lib.hid hC
      clear hC
      by_cases h0 : C = 0
      · have HN := Lib.hid (HJ.out.trans HD.out)
        rw [if_pos h0] at HN
        subst h0
        go_wp2_with (first | (go_at_call 131; (with_reducible refine (cc _).mono ?_); rintro e w' ⟨rfl, rfl⟩) | fail)
        go_round
        case rel => exact ⟨j + 1, by go_num, by omega, HN⟩
        case measure => simp [intOf]; omega
      · have hb : (C != 0) = true := by simpa using h0
        have HN := Lib.hid (HJ.out.trans HD.out)
        rw [if_neg h0] at HN
        go_wp2_with (first | (go_at_call 131; (with_reducible refine (cc _).mono ?_); rintro e w' ⟨rfl, rfl⟩) | fail)
        go_ret
        exact ⟨by rw [HN.out]; rfl, rfl⟩
    · obtain rfl : j = L := by omega
      have hz : R = 0 := by
        rw [HJ.out, List.drop_of_length_le (by rw [← E1.out]; exact Nat.le_refl _), List.drop_of_length_le (by rw [← E2.out]; exact Nat.le_refl _)]; rfl
      have HZ := Lib.hid hz
      clear hz
      go_wp2
      go_ret
      exact ⟨by rw [HZ.out]; rfl, rfl⟩

set_option maxRecDepth 100000 in
set_option maxHeartbeats 4000000 in
theorem compare_any (A1 A2 : Option Addr) (L1 c1 n1 L2 c2 n2 B : Nat) (m1 : L1 ≤ 1000) (w : World) (h1 : Nt w B A1 L1 c1 n1) (h2 : Nt w B A2 L2 c2 n2) :
    Calls Tryz.prog 107 #[.slice A1 L1 c1, .slice A2 L2 c2] w fun e w' => e = .returned (.int .i64 (cmpI n1 n2)) ∧ w' = w := by
  have hg := cmp_grp n1 n2
  rw [← h1.len, ← h2.len] at hg
  have H1 := Lib.hid h1; have H2 := Lib.hid h2
  clear h1 h2
  obtain ⟨R, hR⟩ : ∃ R, R = cmpI (n1 : Int) (n2 : Int) := ⟨_, rfl⟩
  rw [← hR] at hg ⊢
  have HR := Lib.hid hR
  clear hR
  by_cases he : L1 = L2
  · rw [if_pos he] at hg
    subst he
    have cS := sliceCmp_any A1 A2 L1 c1 c2 (grp n1) (grp n2) B m1 w H1.out.len H2.out.len H1.out.ints H2.out.ints
    rw [hg] at cS
    clear hg
    go_enter Tryz.func107, Tryz.ntmps107
    go_wp2_with (first | (go_at_call 132; (with_reducible refine cS.mono ?_); rintro e w' ⟨rfl, rfl⟩) | fail)
    go_ret
    exact ⟨rfl, rfl⟩
  · rw [if_neg he] at hg
    have cS := fun W => cmpI_any (L1 : Int) (L2 : Int) W
    rw [hg] at cS
    clear hg
    have hb : ((L1 : Int) != (L2 : Int)) = true := by simp; omega
    go_enter Tryz.func107, Tryz.ntmps107
    go_wp2_with (first | (go_at_call 131; (with_reducible refine (cS _).mono ?_); rintro e w' ⟨rfl, rfl⟩) | fail)
    go_ret
    exact ⟨rfl, rfl⟩
end Go.Proofs.YtgpncnnlhhmjaaaGreatDoor
