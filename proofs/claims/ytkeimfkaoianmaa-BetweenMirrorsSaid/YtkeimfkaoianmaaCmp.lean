/- compare: by length, then lexicographically. -/
import Derived.Test.YtkeimfkaoianmaaSho
namespace Go.Proofs.Ytkeimfkaoianmaa
open Go.RowKit

def lexC : List Int → List Int → Int
  | [], [] => 0
  | [], _ :: _ => -1
  | _ :: _, [] => 1
  | a :: l, b :: m => if a < b then -1 else if b < a then 1 else lexC l m
def cmpC (a b : List Int) : Int := if (a.length : Int) - (b.length : Int) = 0 then lexC a b else (a.length : Int) - (b.length : Int)
theorem lexC_bd : ∀ a b : List Int, -1 ≤ lexC a b ∧ lexC a b ≤ 1
  | [], [] => by simp [lexC]
  | [], _ :: _ => by simp [lexC]
  | _ :: _, [] => by simp [lexC]
  | a :: l, b :: m => by
    unfold lexC
    split
    · omega
    · split
      · omega
      · exact lexC_bd l m

set_option maxRecDepth 100000 in
theorem isNaN_any (x : Int) (w : World) : Calls Try.prog 69 #[.int .i64 x] w fun e w' => e = .returned (.bool false) ∧ w' = w := by
  have h : (x != x) = false := by simp
  go_enter Try.func69, Try.ntmps69
  go_wp2
  go_ret
  exact ⟨by simp, rfl⟩
def sgn (x y : Int) : Int := if x < y then -1 else if y < x then 1 else 0
set_option maxRecDepth 100000 in
theorem cmpCompare_any (x y : Int) (w : World) : Calls Try.prog 65 #[.int .i64 x, .int .i64 y] w fun e w' => e = .returned (.int .i64 (sgn x y)) ∧ w' = w := by
  unfold sgn
  by_cases h1 : x < y
  · rw [if_pos h1]
    go_enter Try.func65, Try.ntmps65
    go_wp2_with (go_at_call 69; (with_reducible refine (isNaN_any _ _).mono ?_); rintro e wx ⟨rfl, hwx⟩; have hwx := hwx.symm; subst hwx)
    go_ret
    exact ⟨rfl, rfl⟩
  · rw [if_neg h1]
    by_cases h2 : y < x
    · rw [if_pos h2]
      go_enter Try.func65, Try.ntmps65
      go_wp2_with (go_at_call 69; (with_reducible refine (isNaN_any _ _).mono ?_); rintro e wx ⟨rfl, hwx⟩; have hwx := hwx.symm; subst hwx)
      go_ret
      exact ⟨rfl, rfl⟩
    · rw [if_neg h2]
      go_enter Try.func65, Try.ntmps65
      go_wp2_with (go_at_call 69; (with_reducible refine (isNaN_any _ _).mono ?_); rintro e wx ⟨rfl, hwx⟩; have hwx := hwx.symm; subst hwx)
      go_ret
      exact ⟨rfl, rfl⟩

theorem lexC_step {a b : List Int} {k : Nat} {x y : Int} (ha : a[k]? = some x) (hb : b[k]? = some y) : lexC (a.drop k) (b.drop k) = if x < y then -1 else if y < x then 1 else lexC (a.drop (k + 1)) (b.drop (k + 1)) := by
  obtain ⟨h1, h2⟩ := List.getElem?_eq_some_iff.1 ha
  obtain ⟨h3, h4⟩ := List.getElem?_eq_some_iff.1 hb
  rw [List.drop_eq_getElem_cons h1, List.drop_eq_getElem_cons h3, h2, h4, lexC]
set_option maxRecDepth 100000 in
set_option maxHeartbeats 4000000 in
theorem slicesCompare_any (a b : List Int) (A B : Option Addr) (ca cb : Nat) (_ha60 : a.length ≤ 1000) (hb60 : b.length ≤ 1000) (w : World) (ha : Nums w w.heap.size A a) (hb : Nums w w.heap.size B b) :
    Calls Try.prog 57 #[.slice A a.length ca, .slice B b.length cb] w fun e w' => e = .returned (.int .i64 (lexC a b)) ∧ w' = w := by
  obtain ⟨L, hL⟩ : ∃ L, L = a.length := ⟨_, rfl⟩
  obtain ⟨M, hM⟩ : ∃ M, M = b.length := ⟨_, rfl⟩
  obtain ⟨R, hR⟩ : ∃ R, R = lexC a b := ⟨_, rfl⟩
  rw [← hL, ← hM, ← hR]
  rw [← hL] at _ha60
  rw [← hM] at hb60
  have HL := Lib.hid hL; have HM := Lib.hid hM; have HR := Lib.hid hR; have HA := Lib.hid ha; have HB := Lib.hid hb
  clear hL hM hR ha hb
  go_enter Try.func57, Try.ntmps57
  go_wp2
  go_loopg [5, 6, 7, 8, 11] L (fun kx s5 s6 s7 s8 s11 wr => ∃ k : Nat, s11 = .int .i64 (k : Int) ∧ k + kx = L ∧ k ≤ M ∧ Hid (lexC (a.drop k) (b.drop k) = R) ∧ wr = w)
  case atStart => exact ⟨0, rfl, by omega, by omega, Lib.hid (by simpa using HR.out.symm), rfl⟩
  case round =>
    obtain ⟨k, rfl, hk, hkM, I, hwr⟩ := hrel
    subst hwr
    by_cases hlt : k < L
    · obtain ⟨x, hx⟩ : ∃ y, a[k]? = some y := at_lt (by rw [← HL.out]; exact hlt)
      obtain ⟨b1, o1, hA, _, e1⟩ := HA.out.at hx
      subst hA
      by_cases hlm : k < M
      · obtain ⟨y, hy⟩ : ∃ y, b[k]? = some y := at_lt (by rw [← HM.out]; exact hlm)
        obtain ⟨b2, o2, hB, _, e2⟩ := HB.out.at hy
        subst hB
        have hI := I.out
        rw [lexC_step hx hy] at hI
        have cc := fun W => cmpCompare_any x y W
        unfold sgn at cc
        by_cases h1 : x < y
        · rw [if_pos h1] at hI
          simp only [if_pos h1] at cc
          have CC := Lib.hid cc; have HI := Lib.hid hI
          clear cc hI hx hy I
          go_wp2_with (go_at_call 65; (with_reducible refine (CC.out _).mono ?_); rintro e wx ⟨rfl, hwx⟩; have hwx := hwx.symm; subst hwx)
          go_ret
          exact ⟨by rw [← HI.out]; rfl, rfl⟩
        · rw [if_neg h1] at hI
          simp only [if_neg h1] at cc
          by_cases h2 : y < x
          · rw [if_pos h2] at hI
            simp only [if_pos h2] at cc
            have CC := Lib.hid cc; have HI := Lib.hid hI
            clear cc hI hx hy I
            go_wp2_with (go_at_call 65; (with_reducible refine (CC.out _).mono ?_); rintro e wx ⟨rfl, hwx⟩; have hwx := hwx.symm; subst hwx)
            go_ret
            exact ⟨by rw [← HI.out]; rfl, rfl⟩
          · rw [if_neg h2] at hI
            simp only [if_neg h2] at cc
            have CC := Lib.hid cc; have HI := Lib.hid hI
            clear cc hI hx hy I
            go_wp2_with (go_at_call 65; (with_reducible refine (CC.out _).mono ?_); rintro e wx ⟨rfl, hwx⟩; have hwx := hwx.symm; subst hwx)
            go_roundg (L - (k + 1))
            case measure => omega
            case rel => exact ⟨k + 1, by go_num, by omega, by omega, HI, rfl⟩
      · have hI := I.out
        obtain ⟨p1, p2⟩ := List.getElem?_eq_some_iff.1 hx
        rw [List.drop_eq_getElem_cons p1, List.drop_of_length_le (l := b) (by rw [← HM.out]; omega), lexC] at hI
        have HI := Lib.hid hI
        have h3 : M ≤ k := by omega
        clear hI I hx
        go_wp2
        go_ret
        exact ⟨by rw [← HI.out]; rfl, rfl⟩
    · have hI := I.out
      rw [List.drop_of_length_le (l := a) (by rw [← HL.out]; omega)] at hI
      by_cases hlm : L < M
      · rw [List.drop_eq_getElem_cons (l := b) (by rw [← HM.out]; omega), lexC] at hI
        have HI := Lib.hid hI
        clear hI I
        go_wp2
        go_ret
        exact ⟨by rw [← HI.out]; rfl, rfl⟩
      · rw [List.drop_of_length_le (l := b) (by rw [← HM.out]; omega), lexC] at hI
        have HI := Lib.hid hI
        clear hI I
        go_wp2
        go_ret
        exact ⟨by rw [← HI.out]; rfl, rfl⟩

set_option maxRecDepth 100000 in
theorem or_any (x y : Int) (g c : Nat) (w : World) (h0 : w.cell? ⟨g, 0, none⟩ = some (.int .i64 x)) (h1 : w.cell? ⟨g, 1, none⟩ = some (.int .i64 y)) :
    Calls Try.prog 56 #[.slice (some ⟨g, 0, none⟩) 2 c] w fun e w' => e = .returned (.int .i64 (if x = 0 then y else x)) ∧ w' = w := by
  obtain ⟨R, hR⟩ : ∃ R, R = if x = 0 then y else x := ⟨_, rfl⟩
  rw [← hR]
  have HR := Lib.hid hR
  clear hR
  go_enter Try.func56, Try.ntmps56
  go_wp2
  go_loopg [5, 8] 2 (fun kx s5 s8 wr => ∃ k : Nat, s8 = .int .i64 (k : Int) ∧ k + kx = 2 ∧ Hid (1 ≤ k → x = 0) ∧ Hid (2 ≤ k → y = 0) ∧ wr = w)
  case atStart => exact ⟨0, rfl, by omega, Lib.hid (fun h => by omega), Lib.hid (fun h => by omega), rfl⟩
  case round =>
    obtain ⟨k, rfl, hk, I, I2, hwr⟩ := hrel
    subst hwr
    by_cases hk0 : k = 0
    · subst hk0
      by_cases hx : x = 0
      · subst hx
        go_wp2
        go_roundg 1
        case measure => omega
        case rel => exact ⟨1, by go_num, by omega, Lib.hid (fun _ => by trivial), Lib.hid (fun h => by omega), rfl⟩
      · have d : (x != 0) = true := by simpa using hx
        have HX := Lib.hid hx
        go_wp2
        go_ret
        exact ⟨by rw [HR.out, if_neg HX.out]; rfl, rfl⟩
    · by_cases hk1 : k = 1
      · subst hk1
        have hx0 := I.out (by omega)
        subst hx0
        by_cases hy : y = 0
        · subst hy
          go_wp2
          go_roundg 0
          case measure => omega
          case rel => exact ⟨2, by go_num, by omega, Lib.hid (fun _ => by trivial), Lib.hid (fun _ => by trivial), rfl⟩
        · have d : (y != 0) = true := by simpa using hy
          have HY := Lib.hid hy
          go_wp2
          go_ret
          exact ⟨by rw [HR.out]; simp, rfl⟩
      · obtain rfl : k = 2 := by omega
        have hx0 := I.out (by omega)
        have hy0 := I2.out (by omega)
        have HX := Lib.hid hx0; have HY := Lib.hid hy0
        clear hx0 hy0
        go_wp2
        go_ret
        exact ⟨by rw [HR.out, HX.out, if_pos rfl, HY.out]; rfl, rfl⟩

set_option maxRecDepth 100000 in
theorem compare_any (a b : List Int) (A B : Option Addr) (ca cb : Nat) (ha60 : a.length ≤ 1000) (hb60 : b.length ≤ 1000) (w : World) (ha : Nums w w.heap.size A a) (hb : Nums w w.heap.size B b) :
    Calls Try.prog 45 #[.slice A a.length ca, .slice B b.length cb] w fun e w' => e = .returned (.int .i64 (cmpC a b)) ∧ Below w.heap.size w w' := by
  have hc := slicesCompare_any a b A B ca cb ha60 hb60 w ha hb
  unfold cmpC
  have bd := lexC_bd a b
  generalize lexC a b = R at *
  generalize a.length = L at *
  generalize b.length = M at *
  obtain ⟨D, hD⟩ : ∃ D, D = (L : Int) - (M : Int) := ⟨_, rfl⟩
  obtain ⟨E, hE⟩ : ∃ E, E = if D = 0 then R else D := ⟨_, rfl⟩
  rw [← hD, ← hE]
  have HC := Lib.hid hc
  have ho := fun (W : World) (g : Nat) (h0 : W.cell? ⟨g, 0, none⟩ = some (.int .i64 ((L : Int) - (M : Int)))) (h1 : W.cell? ⟨g, 1, none⟩ = some (.int .i64 R)) => or_any ((L : Int) - (M : Int)) R g 2 W h0 h1
  rw [← hD, ← hE] at ho
  have ew : (L : Int) - (M : Int) = D := hD.symm
  have HO := Lib.hid ho; have HE := Lib.hid hE
  clear hc ho ha hb hE hD
  go_enter Try.func45, Try.ntmps45
  go_wp2_with (first
    | (go_at_call 57; (with_reducible refine HC.out.mono ?_); rintro e wx ⟨rfl, hwx⟩; have hwx := hwx.symm; subst hwx)
    | (go_at_call 56; (refine (HO.out _ _ ((Row.made _ _ _).at rfl) ((Row.made _ _ _).at rfl)).mono ?_); rintro e wx ⟨rfl, hwx⟩; have hwx := hwx.symm; subst hwx))
  go_ret
  exact ⟨rfl, below_alloc _ _⟩
end Go.Proofs.Ytkeimfkaoianmaa
