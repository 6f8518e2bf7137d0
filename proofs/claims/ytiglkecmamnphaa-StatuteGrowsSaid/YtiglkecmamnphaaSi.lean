/- Ints and Same at equal lists; index. -/
import Derived.Test.YtiglkecmamnphaaMd
import Derived.Handy
namespace Go.Proofs.Ytiglkecmamnphaa
open Go.RowKit Go.Sort Go.Lib

theorem fds_cell {W : World} {A : Option Addr} {l : List Fd} (h : FdsC W A l) {k : Nat} {x : Fd} (hx : l[k]? = some x) : ∃ b o : Nat, A = some ⟨b, o, none⟩ ∧ W.cell? ⟨b, o + k * 4, none⟩ = some (.int .i64 x.1) ∧ W.cell? ⟨b, o + k * 4 + 1, none⟩ = some (.bool x.2.1) ∧ W.cell? ⟨b, o + k * 4 + 2, none⟩ = some (.int .i64 x.2.2.1) ∧ W.cell? ⟨b, o + k * 4 + 3, none⟩ = some (.int .i64 x.2.2.2) := by
  obtain ⟨b, o, hA, _, h0, h1, h2, h3⟩ := h k x hx
  exact ⟨b, o, hA, h0, h1, h2, h3⟩
set_option maxRecDepth 100000 in
set_option maxHeartbeats 4000000 in
theorem ints_same (a : List Int) (u v : Value) (w : World) (hu : IntsV w w.heap.size u a) (hv : IntsV w w.heap.size v a) :
    Calls Try.prog 24 #[u, v] w fun e w' => e = .returned (.bool true) ∧ Below w.heap.size w w' := by
  obtain ⟨A, ca, rfl, l9, ha⟩ := hu
  obtain ⟨B, cb, rfl, _, hb⟩ := hv
  obtain ⟨L, hL⟩ : ∃ L, L = a.length := ⟨_, rfl⟩
  rw [← hL] at l9 ⊢
  replace l9 : L ≤ 9223372036854775807 := l9
  have HL := Lib.hid hL; have HA := Lib.hid ha; have HB := Lib.hid hb
  clear hL ha hb
  go_enter Try.func24, Try.ntmps24
  go_wp2
  go_loopg [5] L (fun kx s5 wr => ∃ k d : Nat, s5 = .int .i64 (k : Int) ∧ k + kx = L ∧ wr = w.drewN d)
  case atStart => exact ⟨0, 0, rfl, by omega, rfl⟩
  case round =>
    obtain ⟨k, d, rfl, hk, hwr⟩ := hrel
    subst hwr
    by_cases hlt : k < L
    · obtain ⟨x, hx⟩ : ∃ y, a[k]? = some y := at_lt (by rw [← HL.out]; exact hlt)
      obtain ⟨b1, o1, hA, _, e1⟩ := HA.out.at hx
      obtain ⟨b2, o2, hB, _, e2⟩ := HB.out.at hx
      subst hA
      subst hB
      have hkL : (k : Int) < (L : Int) := by omega
      have e1' : (w.drewN d).cell? ⟨b1, o1 + k, none⟩ = some (.int .i64 x) := e1
      have e2' : (w.drewN d).cell? ⟨b2, o2 + k, none⟩ = some (.int .i64 x) := e2
      clear hx e1 e2
      obtain ⟨W1, hW1⟩ : ∃ W1, W1 = w.drewN d := ⟨_, rfl⟩
      rw [← hW1] at e1' e2' ⊢
      have HW := Lib.hid hW1
      clear hW1
      go_upto_region 6 with (fail)
      go_quiet (fail)
      go_wp2
      go_roundg (L - (k + 1))
      case measure => omega
      case rel =>
        rw [HW.out, World.drewN_drewN]
        exact ⟨k + 1, _, by go_num, by omega, rfl⟩
    · obtain rfl : k = L := by omega
      go_wp2
      go_ret
      exact ⟨rfl, below_drawnN (Below.refl _ _) d⟩
set_option maxRecDepth 100000 in
set_option maxHeartbeats 4000000 in
theorem same_same (a : List Fd) (A B : Option Addr) (ca cb : Nat) (l9 : a.length ≤ 100) (w : World) (ha : FdsC w A a) (hb : FdsC w B a) :
    Calls Try.prog 23 #[.slice A a.length ca, .slice B a.length cb] w fun e w' => e = .returned (.bool true) ∧ Below w.heap.size w w' := by
  obtain ⟨L, hL⟩ : ∃ L, L = a.length := ⟨_, rfl⟩
  rw [← hL] at l9 ⊢
  have HL := Lib.hid hL; have HA := Lib.hid ha; have HB := Lib.hid hb
  clear hL ha hb
  go_enter Try.func23, Try.ntmps23
  go_wp2
  go_loopg [5] L (fun kx s5 wr => ∃ k d : Nat, s5 = .int .i64 (k : Int) ∧ k + kx = L ∧ wr = w.drewN d)
  case atStart => exact ⟨0, 0, rfl, by omega, rfl⟩
  case round =>
    obtain ⟨k, d, rfl, hk, hwr⟩ := hrel
    subst hwr
    by_cases hlt : k < L
    · obtain ⟨⟨x0, x1, x2, x3⟩, hx⟩ : ∃ y, a[k]? = some y := at_lt (by rw [← HL.out]; exact hlt)
      obtain ⟨b1, o1, hA, e1, e2, e3, e4⟩ := fds_cell HA.out hx
      obtain ⟨b2, o2, hB, g1, g2, g3, g4⟩ := fds_cell HB.out hx
      subst hA
      subst hB
      dsimp only at e1 e2 e3 e4 g1 g2 g3 g4
      have hkL : (k : Int) < (L : Int) := by omega
      obtain ⟨W1, hW1⟩ : ∃ W1, W1 = w.drewN d := ⟨_, rfl⟩
      replace e1 : W1.cell? ⟨b1, o1 + k * 4, none⟩ = some (.int .i64 x0) := by rw [hW1]; exact e1
      replace e2 : W1.cell? ⟨b1, o1 + k * 4 + 1, none⟩ = some (.bool x1) := by rw [hW1]; exact e2
      replace e3 : W1.cell? ⟨b1, o1 + k * 4 + 2, none⟩ = some (.int .i64 x2) := by rw [hW1]; exact e3
      replace e4 : W1.cell? ⟨b1, o1 + k * 4 + 3, none⟩ = some (.int .i64 x3) := by rw [hW1]; exact e4
      replace g1 : W1.cell? ⟨b2, o2 + k * 4, none⟩ = some (.int .i64 x0) := by rw [hW1]; exact g1
      replace g2 : W1.cell? ⟨b2, o2 + k * 4 + 1, none⟩ = some (.bool x1) := by rw [hW1]; exact g2
      replace g3 : W1.cell? ⟨b2, o2 + k * 4 + 2, none⟩ = some (.int .i64 x2) := by rw [hW1]; exact g3
      replace g4 : W1.cell? ⟨b2, o2 + k * 4 + 3, none⟩ = some (.int .i64 x3) := by rw [hW1]; exact g4
      rw [← hW1]
      have HW := Lib.hid hW1
      clear hW1 hx
      go_upto_region 6 with (fail)
      go_quiet (fail)
      go_wp2
      go_roundg (L - (k + 1))
      case measure => omega
      case rel =>
        rw [HW.out, World.drewN_drewN]
        exact ⟨k + 1, _, by go_num, by omega, rfl⟩
    · obtain rfl : k = L := by omega
      go_wp2
      go_ret
      exact ⟨rfl, below_drawnN (Below.refl _ _) d⟩
/-- The place of the first that is x, or -1. -/
def posI (l : List Int) (x : Int) : Int := match l.findIdx? (fun y => y == x) with
  | some i => (i : Int)
  | none => -1
theorem pos_hit {l : List Int} {x : Int} {k : Nat} (h : l[k]? = some x) (hn : ∀ y ∈ l.take k, y ≠ x) : posI l x = (k : Int) := by
  have : l.findIdx? (fun y => y == x) = some k := by
    rw [List.findIdx?_eq_some_iff_getElem]
    obtain ⟨h1, h2⟩ := List.getElem?_eq_some_iff.1 h
    refine ⟨h1, by simp [h2], fun j hj => ?_⟩
    have := hn l[j] (List.mem_of_getElem? (i := j) (by rw [List.getElem?_take_of_lt hj, List.getElem?_eq_getElem (by omega)]))
    simpa using this
  unfold posI
  rw [this]
theorem pos_none {l : List Int} {x : Int} (hn : ∀ y ∈ l, y ≠ x) : posI l x = -1 := by
  have : l.findIdx? (fun y => y == x) = none := by
    rw [List.findIdx?_eq_none_iff]
    intro y hy
    simpa using hn y hy
  unfold posI
  rw [this]
set_option maxRecDepth 100000 in
set_option maxHeartbeats 4000000 in
theorem index_any (a : List Int) (x : Int) (u : Value) (w : World) (hu : IntsV w w.heap.size u a) :
    Calls Try.prog 19 #[u, .int .i64 x] w fun e w' => e = .returned (.int .i64 (posI a x)) ∧ w' = w := by
  obtain ⟨A, ca, rfl, l9, ha⟩ := hu
  obtain ⟨L, hL⟩ : ∃ L, L = a.length := ⟨_, rfl⟩
  rw [← hL] at l9 ⊢
  replace l9 : L ≤ 9223372036854775807 := l9
  obtain ⟨r, hr⟩ : ∃ r, r = posI a x := ⟨_, rfl⟩
  rw [← hr]
  have HL := Lib.hid hL; have HA := Lib.hid ha; have HR := Lib.hid hr
  clear hL ha hr
  go_enter Try.func19, Try.ntmps19
  go_wp2
  go_loopg [5] L (fun kx s5 wr => ∃ k : Nat, s5 = .int .i64 (k : Int) ∧ k + kx = L ∧ Hid (∀ y ∈ a.take k, y ≠ x) ∧ wr = w)
  case atStart => exact ⟨0, rfl, by omega, Lib.hid (by simp), rfl⟩
  case round =>
    obtain ⟨k, rfl, hk, I, hwr⟩ := hrel
    subst hwr
    by_cases hlt : k < L
    · obtain ⟨y, hy⟩ : ∃ y, a[k]? = some y := at_lt (by rw [← HL.out]; exact hlt)
      obtain ⟨b1, o1, hA, _, e1⟩ := HA.out.at hy
      subst hA
      have hkL : (k : Int) < (L : Int) := by omega
      have HY := Lib.hid hy
      clear hy
      by_cases hyx : y = x
      · subst hyx
        have hrk : r = (k : Int) := by rw [HR.out]; exact pos_hit HY.out I.out
        clear I HR
        subst hrk
        go_wp2
        go_ret
        exact ⟨rfl, rfl⟩
      · have hne : (y == x) = false := by simpa using hyx
        have I' : Hid (∀ z ∈ a.take (k + 1), z ≠ x) := Lib.hid (fun z hz => by
          rw [List.take_add_one, HY.out] at hz
          rcases List.mem_append.1 hz with hz | hz
          · exact I.out z hz
          · simp at hz; rw [hz]; exact hyx)
        clear I
        go_wp2
        go_roundg (L - (k + 1))
        case measure => omega
        case rel => exact ⟨k + 1, by go_num, by omega, I', rfl⟩
    · obtain rfl : k = L := by omega
      have hrk : r = -1 := by
        rw [HR.out]
        refine pos_none fun y hy => I.out y ?_
        rwa [List.take_of_length_le (by rw [← HL.out]; exact Nat.le_refl _)]
      clear I HR
      subst hrk
      go_wp2
      go_ret
      exact ⟨rfl, rfl⟩
end Go.Proofs.Ytiglkecmamnphaa
