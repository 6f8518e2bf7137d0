/- pick, Ints, Tables, Misses, example, short: what the laws and the reference share. -/
import Derived.Test.YtkeimfkaoianmaaMem
import Derived.Deep.LoopGhost
import Derived.Deep.DeepCutAuto
namespace Go.Proofs.Ytkeimfkaoianmaa
open Go.RowKit

def pk (c n : Int) : Int := (if c < 0 then -(c + 1) else c) % n
theorem pk_range {c n : Int} (hn : 0 < n) : 0 ≤ pk c n ∧ pk c n < n := ⟨Int.emod_nonneg _ (by omega), Int.emod_lt_of_pos _ hn⟩
set_option maxRecDepth 100000 in
theorem pick_any (c n : Int) (c1 : -9223372036854775808 ≤ c) (c2 : c ≤ 9223372036854775807) (n1 : 0 < n) (n2 : n ≤ 9223372036854775807) (w : World) :
    Calls Try.prog 13 #[.int .i64 c, .int .i64 n] w fun e w' => e = .returned (.int .i64 (pk c n)) ∧ w' = w := by
  have hr := pk_range (c := c) n1
  by_cases h : c < 0
  · have e : (-(c + 1)).tmod n = pk c n := by rw [Int.tmod_eq_emod_of_nonneg (by omega), pk, if_pos h]
    generalize pk c n = r at *
    go_enter Try.func13, Try.ntmps13
    go_wp2
    go_ret
    exact ⟨rfl, rfl⟩
  · have e : c.tmod n = pk c n := by rw [Int.tmod_eq_emod_of_nonneg (by omega), pk, if_neg h]
    generalize pk c n = r at *
    go_enter Try.func13, Try.ntmps13
    go_wp2
    go_ret
    exact ⟨rfl, rfl⟩
set_option maxRecDepth 100000 in
theorem rpick_any (c n : Int) (c1 : -9223372036854775808 ≤ c) (c2 : c ≤ 9223372036854775807) (n1 : 0 < n) (n2 : n ≤ 9223372036854775807) (w : World) :
    Calls Try.prog 38 #[.int .i64 c, .int .i64 n] w fun e w' => e = .returned (.int .i64 (pk c n)) ∧ w' = w := by
  have hr := pk_range (c := c) n1
  by_cases h : c < 0
  · have e : (-(c + 1)).tmod n = pk c n := by rw [Int.tmod_eq_emod_of_nonneg (by omega), pk, if_pos h]
    generalize pk c n = r at *
    go_enter Try.func38, Try.ntmps38
    go_wp2
    go_ret
    exact ⟨rfl, rfl⟩
  · have e : c.tmod n = pk c n := by rw [Int.tmod_eq_emod_of_nonneg (by omega), pk, if_neg h]
    generalize pk c n = r at *
    go_enter Try.func38, Try.ntmps38
    go_wp2
    go_ret
    exact ⟨rfl, rfl⟩

abbrev In64 (z : Int) : Prop := -9223372036854775808 ≤ z ∧ z ≤ 9223372036854775807
set_option maxRecDepth 100000 in
set_option maxHeartbeats 4000000 in
theorem ints_any (a b : List Int) (A B : Option Addr) (ca cb : Nat) (ha60 : a.length ≤ 100000) (hb60 : b.length ≤ 100000) (w : World) (B0 : Nat) (ha : Nums w B0 A a) (hb : Nums w B0 B b) :
    Calls Try.prog 25 #[.slice A a.length ca, .slice B b.length cb] w fun e w' => e = .returned (.bool (decide (a = b))) ∧ ∃ n, w' = w.drewN n := by
  obtain ⟨L, hL⟩ : ∃ L, L = a.length := ⟨_, rfl⟩
  obtain ⟨M, hM⟩ : ∃ M, M = b.length := ⟨_, rfl⟩
  obtain ⟨R, hR⟩ : ∃ R, R = decide (a = b) := ⟨_, rfl⟩
  rw [← hL, ← hM, ← hR]
  rw [← hL] at ha60
  rw [← hM] at hb60
  have HL := Lib.hid hL; have HM := Lib.hid hM; have HR := Lib.hid hR; have HA := Lib.hid ha; have HB := Lib.hid hb
  clear hL hM hR ha hb
  by_cases hlm : L = M
  · subst hlm
    go_enter Try.func25, Try.ntmps25
    go_wp2
    go_loopg [5] L (fun kx s5 wr => ∃ k d : Nat, s5 = .int .i64 (k : Int) ∧ k + kx = L ∧ Hid (a.take k = b.take k) ∧ wr = w.drewN d)
    case atStart => exact ⟨0, 0, rfl, by omega, Lib.hid (by simp), rfl⟩
    case round =>
      obtain ⟨k, d, rfl, hk, I, hwr⟩ := hrel
      subst hwr
      by_cases hlt : k < L
      · obtain ⟨x, hx⟩ : ∃ y, a[k]? = some y := at_lt (by rw [← HL.out]; exact hlt)
        obtain ⟨y, hy⟩ : ∃ y, b[k]? = some y := at_lt (by rw [← HM.out]; exact hlt)
        obtain ⟨b1, o1, hA, _, e1⟩ := HA.out.at hx
        obtain ⟨b2, o2, hB, _, e2⟩ := HB.out.at hy
        subst hA
        subst hB
        have hkL : (k : Int) < (L : Int) := by omega
        have e1' : (w.drewN d).cell? ⟨b1, o1 + k, none⟩ = some (.int .i64 x) := e1
        have e2' : (w.drewN d).cell? ⟨b2, o2 + k, none⟩ = some (.int .i64 y) := e2
        have HX := Lib.hid hx; have HY := Lib.hid hy
        clear hx hy e1 e2
        obtain ⟨W1, hW1⟩ : ∃ W1, W1 = w.drewN d := ⟨_, rfl⟩
        rw [← hW1] at e1' e2' ⊢
        have HW := Lib.hid hW1
        clear hW1
        by_cases hxy : x = y
        · subst hxy
          go_upto_region 6 with (fail)
          go_quiet (fail)
          go_wp2
          go_roundg (L - (k + 1))
          case measure => omega
          case rel => exact ⟨k + 1, d + nq, by go_num, by omega, Lib.hid (by rw [List.take_add_one, List.take_add_one, I.out, HX.out, HY.out]), by rw [HW.out, World.drewN_drewN]⟩
        · have d1 : (x != y) = true := by simpa using hxy
          have HXY := Lib.hid hxy
          clear hxy
          go_upto_region 6 with (fail)
          go_quiet (fail)
          go_wp2
          go_ret
          have : R = false := by
            rw [HR.out]
            refine decide_eq_false (fun e => HXY.out ?_)
            have h1 := HX.out
            rw [e, HY.out] at h1
            exact (Option.some.inj h1).symm
          exact ⟨by rw [this]; rfl, d + nq, by rw [HW.out, World.drewN_drewN]⟩
      · have hI := I.out
        have : R = true := by
          rw [HR.out]
          rw [List.take_of_length_le (by rw [← HL.out]; omega), List.take_of_length_le (by rw [← HM.out]; omega)] at hI
          exact decide_eq_true hI
        have HRT := Lib.hid this
        clear this hI I
        go_wp2
        go_ret
        exact ⟨by rw [HRT.out]; rfl, d, rfl⟩
  · have : R = false := by
      rw [HR.out]
      exact decide_eq_false (fun e => hlm (by rw [HL.out, HM.out, e]))
    have HRF := Lib.hid this
    clear this
    have d1 : ((L : Int) != (M : Int)) = true := by simp; omega
    go_enter Try.func25, Try.ntmps25
    go_wp2
    go_ret
    exact ⟨by rw [HRF.out]; rfl, 0, rfl⟩

/-- A slice of slices of integers that the caller holds. -/
def Rws (w : World) (B : Nat) (A : Option Addr) (rows : List (List Int)) : Prop :=
  rows = [] ∨ ∃ g o : Nat, A = some ⟨g, o, none⟩ ∧ g < B ∧ ∀ (i : Nat) (r : List Int), rows[i]? = some r → ∃ Ai ci, w.cell? ⟨g, o + i, none⟩ = some (.slice Ai r.length ci) ∧ Nums w B Ai r
theorem Rws.at {w : World} {B : Nat} {A : Option Addr} {rows : List (List Int)} (h : Rws w B A rows) {i : Nat} {r : List Int} (hr : rows[i]? = some r) : ∃ g o : Nat, A = some ⟨g, o, none⟩ ∧ g < B ∧ ∃ Ai ci, w.cell? ⟨g, o + i, none⟩ = some (.slice Ai r.length ci) ∧ Nums w B Ai r := by
  rcases h with rfl | ⟨g, o, hA, hB, hc⟩
  · simp at hr
  · exact ⟨g, o, hA, hB, hc i r hr⟩
theorem Rws.below {w W : World} {B : Nat} {A : Option Addr} {rows : List (List Int)} (h : Rws w B A rows) (hb : Below B w W) : Rws W B A rows := by
  rcases h with h | ⟨g, o, hA, hB, hc⟩
  · exact .inl h
  · exact .inr ⟨g, o, hA, hB, fun i r hr => by
      obtain ⟨Ai, ci, h1, h2⟩ := hc i r hr
      exact ⟨Ai, ci, by rw [hb.cell (p := ⟨g, o + i, none⟩) hB]; exact h1, h2.below hb⟩⟩
theorem Rws.more {w : World} {B B' : Nat} {A : Option Addr} {rows : List (List Int)} (h : Rws w B A rows) (hB' : B ≤ B') : Rws w B' A rows := by
  rcases h with h | ⟨g, o, hA, hB, hc⟩
  · exact .inl h
  · exact .inr ⟨g, o, hA, Nat.lt_of_lt_of_le hB hB', fun i r hr => by
      obtain ⟨Ai, ci, h1, h2⟩ := hc i r hr
      exact ⟨Ai, ci, h1, h2.more hB'⟩⟩
theorem Rws.deep {w W : World} {A : Option Addr} {rows : List (List Int)} (h : Rws w w.heap.size A rows) (hb : Below w.heap.size w W) : Rws W W.heap.size A rows := (h.below hb).more hb.size

set_option maxRecDepth 100000 in
set_option maxHeartbeats 4000000 in
theorem tables_any (a b : List (List Int)) (A B : Option Addr) (ca cb : Nat) (ha60 : a.length ≤ 1000) (hb60 : b.length ≤ 1000) (hr1 : ∀ r ∈ a, r.length ≤ 100000) (hr2 : ∀ r ∈ b, r.length ≤ 100000) (w : World) (B0 : Nat) (ha : Rws w B0 A a) (hb : Rws w B0 B b) :
    Calls Try.prog 24 #[.slice A a.length ca, .slice B b.length cb] w fun e w' => e = .returned (.bool (decide (a = b))) ∧ ∃ n, w' = w.drewN n := by
  obtain ⟨L, hL⟩ : ∃ L, L = a.length := ⟨_, rfl⟩
  obtain ⟨M, hM⟩ : ∃ M, M = b.length := ⟨_, rfl⟩
  obtain ⟨R, hR⟩ : ∃ R, R = decide (a = b) := ⟨_, rfl⟩
  rw [← hL, ← hM, ← hR]
  rw [← hL] at ha60
  rw [← hM] at hb60
  have HL := Lib.hid hL; have HM := Lib.hid hM; have HR := Lib.hid hR; have HA := Lib.hid ha; have HB := Lib.hid hb; have H1 := Lib.hid hr1; have H2 := Lib.hid hr2
  clear hL hM hR ha hb hr1 hr2
  by_cases hlm : L = M
  · subst hlm
    go_enter Try.func24, Try.ntmps24
    go_wp2
    go_loopg [5] L (fun kx s5 wr => ∃ k d : Nat, s5 = .int .i64 (k : Int) ∧ k + kx = L ∧ Hid (a.take k = b.take k) ∧ wr = w.drewN d)
    case atStart => exact ⟨0, 0, rfl, by omega, Lib.hid (by simp), rfl⟩
    case round =>
      obtain ⟨k, d, rfl, hk, I, hwr⟩ := hrel
      subst hwr
      by_cases hlt : k < L
      · obtain ⟨x, hx⟩ : ∃ y, a[k]? = some y := at_lt (by rw [← HL.out]; exact hlt)
        obtain ⟨y, hy⟩ : ∃ y, b[k]? = some y := at_lt (by rw [← HM.out]; exact hlt)
        obtain ⟨b1, o1, hA, _, A1, c1, e1, n1⟩ := HA.out.at hx
        obtain ⟨b2, o2, hB, _, A2, c2, e2, n2⟩ := HB.out.at hy
        subst hA
        subst hB
        have hkL : (k : Int) < (L : Int) := by omega
        have e1' : (w.drewN d).cell? ⟨b1, o1 + k, none⟩ = some (.slice A1 x.length c1) := e1
        have e2' : (w.drewN d).cell? ⟨b2, o2 + k, none⟩ = some (.slice A2 y.length c2) := e2
        have hc := fun (m : Nat) => ints_any x y A1 A2 c1 c2 (H1.out _ (List.mem_of_getElem? hx)) (H2.out _ (List.mem_of_getElem? hy)) ((w.drewN d).drewN m) B0 n1 n2
        have HX := Lib.hid hx; have HY := Lib.hid hy
        clear hx hy e1 e2 n1 n2
        obtain ⟨W1, hW1⟩ : ∃ W1, W1 = w.drewN d := ⟨_, rfl⟩
        obtain ⟨lx, hlx⟩ : ∃ lx, lx = x.length := ⟨_, rfl⟩
        obtain ⟨ly, hly⟩ : ∃ ly, ly = y.length := ⟨_, rfl⟩
        rw [← hW1, ← hlx, ← hly] at hc
        rw [← hW1, ← hlx] at e1'
        rw [← hW1, ← hly] at e2'
        rw [← hW1]
        obtain ⟨q, hq⟩ : ∃ q, q = decide (x = y) := ⟨_, rfl⟩
        rw [← hq] at hc
        have HC := Lib.hid hc; have HW := Lib.hid hW1; have HQ := Lib.hid hq
        clear hc hW1 hq hlx hly
        cases q
        · go_upto_region 6 with (fail)
          go_quiet ((go_at_call 25; exact Calls.quiet_of (HC.out _)))
          go_wp2
          go_ret
          have : R = false := by
            rw [HR.out]
            refine decide_eq_false (fun e => ?_)
            have h1 := HX.out
            rw [e, HY.out] at h1
            exact of_decide_eq_false HQ.out.symm (Option.some.inj h1).symm
          exact ⟨by rw [this]; rfl, d + nq, by rw [HW.out, World.drewN_drewN]⟩
        · go_upto_region 6 with (fail)
          go_quiet ((go_at_call 25; exact Calls.quiet_of (HC.out _)))
          go_wp2
          go_roundg (L - (k + 1))
          case measure => omega
          case rel => exact ⟨k + 1, d + nq, by go_num, by omega, Lib.hid (by rw [List.take_add_one, List.take_add_one, I.out, HX.out, HY.out, of_decide_eq_true HQ.out.symm]), by rw [HW.out, World.drewN_drewN]⟩
      · have hI := I.out
        have : R = true := by
          rw [HR.out]
          rw [List.take_of_length_le (by rw [← HL.out]; omega), List.take_of_length_le (by rw [← HM.out]; omega)] at hI
          exact decide_eq_true hI
        have HRT := Lib.hid this
        clear this hI I
        go_wp2
        go_ret
        exact ⟨by rw [HRT.out]; rfl, d, rfl⟩
  · have : R = false := by
      rw [HR.out]
      exact decide_eq_false (fun e => hlm (by rw [HL.out, HM.out, e]))
    have HRF := Lib.hid this
    clear this
    have d1 : ((L : Int) != (M : Int)) = true := by simp; omega
    go_enter Try.func24, Try.ntmps24
    go_wp2
    go_ret
    exact ⟨by rw [HRF.out]; rfl, 0, rfl⟩

/-- The integers that determine bounds. -/
def nmV (N : Int) (HA : Option Addr) (hl hc : Nat) (BA : Option Addr) (bl bc : Nat) (M : Int) : Value := .agg #[.int .i64 N, .slice HA hl hc, .slice BA bl bc, .int .i64 M]
def missB (M : Int) : Bool := decide (pk M 3 = 2)
set_option maxRecDepth 100000 in
theorem misses_any (N : Int) (HA : Option Addr) (hl hc : Nat) (BA : Option Addr) (bl bc : Nat) (M : Int) (hM : In64 M) (w : World) :
    Calls Try.prog 35 #[nmV N HA hl hc BA bl bc M] w fun e w' => e = .returned (.bool (missB M)) ∧ Below w.heap.size w w' := by
  unfold nmV missB
  have p := fun W => rpick_any M 3 hM.1 hM.2 (by omega) (by omega) W
  generalize pk M 3 = x at *
  have P := Lib.hid p
  clear p
  by_cases hx : x = 2
  · subst hx
    go_enter Try.func35, Try.ntmps35
    go_wp2_with (go_at_call 38; (with_reducible refine (P.out _).mono ?_); rintro e wx ⟨rfl, hwx⟩; have hwx := hwx.symm; subst hwx)
    go_ret
    exact ⟨rfl, below_alloc _ _⟩
  · have d : (x == 2) = false := by simpa using hx
    rw [decide_eq_false hx]
    go_enter Try.func35, Try.ntmps35
    go_wp2_with (go_at_call 38; (with_reducible refine (P.out _).mono ?_); rintro e wx ⟨rfl, hwx⟩; have hwx := hwx.symm; subst hwx)
    go_ret
    exact ⟨rfl, below_alloc _ _⟩
end Go.Proofs.Ytkeimfkaoianmaa
