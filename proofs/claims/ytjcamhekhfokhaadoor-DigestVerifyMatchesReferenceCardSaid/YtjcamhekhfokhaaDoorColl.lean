/- dialtonelaw02.collide. -/
import Derived.Test.YtjcamhekhfokhaaDoorWay
namespace Go.Proofs.YtjcamhekhfokhaaDoor
open Go.RowKit

theorem get_at {l : List ByteArray} {j : Nat} (h : j < l.length) : l[j]? = some l[j] := List.getElem?_eq_getElem h
/-- No clash before index j. -/
def Calm (xs ys : List ByteArray) (j : Nat) : Prop := ∀ i, i < j → ∀ u v, xs[i]? = some u → ys[i]? = some v → u ≠ v → sumS u ≠ sumS v
theorem Calm.next {xs ys : List ByteArray} {j : Nat} {X Y : ByteArray} (h : Calm xs ys j) (gx : xs[j]? = some X) (gy : ys[j]? = some Y) (hn : X ≠ Y → sumS X ≠ sumS Y) : Calm xs ys (j + 1) := by
  intro i hi u v hu hv hne
  rcases Nat.lt_or_ge i j with hlt | hge
  · exact h i hlt u v hu hv hne
  · obtain rfl : i = j := by omega
    rw [gx] at hu; rw [gy] at hv
    cases hu; cases hv
    exact hn hne
theorem Calm.done {xs ys : List ByteArray} {j : Nat} (h : Calm xs ys j) (hj : xs.length ≤ j ∨ ys.length ≤ j) : ¬ Clash xs ys := by
  rintro ⟨i, u, v, hu, hv, hne, hs⟩
  rcases Nat.lt_or_ge i j with hlt | hge
  · exact h i hlt u v hu hv hne hs
  · rcases hj with h' | h'
    · rw [List.getElem?_eq_none (by omega)] at hu; cases hu
    · rw [List.getElem?_eq_none (by omega)] at hv; cases hv
set_option maxRecDepth 100000 in
set_option maxHeartbeats 2000000 in
theorem coll_any (A1 A2 : Option Addr) (c1 c2 n1 n2 : Nat) (xs ys : List ByteArray) (w : World) (h1 : n1 = xs.length) (h2 : n2 = ys.length) (m1 : n1 ≤ 1000) (m2 : n2 ≤ 1000)
    (hS1 : Strs w w.heap.size A1 xs) (hS2 : Strs w w.heap.size A2 ys) (hz1 : ∀ s ∈ xs, s.size ≤ 2000) (hz2 : ∀ s ∈ ys, s.size ≤ 2000) (ht : Tab w) :
    Calls Tryd.prog 35 #[.slice A1 n1 c1, .slice A2 n2 c2] w fun e w' => ∃ R, e = .returned (.bool R) ∧ (Clash xs ys → R = true) ∧ Below w.heap.size w w' := by
  have HT := Lib.hid ht; have S1 := Lib.hid hS1; have S2 := Lib.hid hS2; have Z1 := Lib.hid hz1; have Z2 := Lib.hid hz2; have L1 := Lib.hid h1; have L2 := Lib.hid h2
  clear ht hS1 hS2 hz1 hz2 h1 h2
  go_enter Tryd.func35, Tryd.ntmps35
  go_wp2
  go_loopw [5] (fun p wr => ∃ j : Nat, p = .int .i64 j ∧ j ≤ n1 ∧ j ≤ n2 ∧ Calm xs ys j ∧ Below w.heap.size w wr) (fun p _ => n1 - (intOf p).toNat)
  case atStart => exact ⟨0, rfl, by omega, by omega, fun i hi => by omega, Below.refl _ _⟩
  case round =>
    obtain ⟨j, rfl, hj1, hj2, hno, hbr⟩ := hrel
    by_cases hgo : j < n1 ∧ j < n2
    · obtain ⟨g1, g2⟩ := hgo
      have k1 : j < xs.length := by rw [← L1.out]; exact g1
      have k2 : j < ys.length := by rw [← L2.out]; exact g2
      obtain ⟨b1, o1, rfl, B1⟩ := strs_some S1.out (by intro e; rw [e] at k1; simp at k1)
      obtain ⟨b2, o2, rfl, B2⟩ := strs_some S2.out (by intro e; rw [e] at k2; simp at k2)
      have c1j := (hbr.cell (p := ⟨b1, o1 + j, none⟩) B1).trans (strs_cell S1.out j _ (get_at k1))
      have c2j := (hbr.cell (p := ⟨b2, o2 + j, none⟩) B2).trans (strs_cell S2.out j _ (get_at k2))
      have z1 := Z1.out _ (List.getElem_mem k1)
      have z2 := Z2.out _ (List.getElem_mem k2)
      have gx := get_at k1
      have gy := get_at k2
      obtain ⟨X, hX⟩ : ∃ X, X = xs[j] := ⟨_, rfl⟩
      obtain ⟨Y, hY⟩ : ∃ Y, Y = ys[j] := ⟨_, rfl⟩
      rw [← hX] at c1j z1 gx
      rw [← hY] at c2j z2 gy
      have GX := Lib.hid gx; have GY := Lib.hid gy
      have T1 := Lib.hid (HT.out.below hbr)
      have j0 : (0 : Int) ≤ (j : Int) := by omega
      have j1 : (j : Int) < (n1 : Int) := by omega
      have j2 : (j : Int) < (n2 : Int) := by omega
      have B1' : b1 < wr.heap.size := Nat.lt_of_lt_of_le B1 hbr.size
      have B2' : b2 < wr.heap.size := Nat.lt_of_lt_of_le B2 hbr.size
      have both : ∀ W, Below wr.heap.size wr W → (Below wr.heap.size wr W ∧ W.cell? ⟨b1, o1 + j, none⟩ = some (.string X) ∧ W.cell? ⟨b2, o2 + j, none⟩ = some (.string Y)) :=
        fun W h => ⟨h, (h.cell (p := ⟨b1, o1 + j, none⟩) B1').trans c1j, (h.cell (p := ⟨b2, o2 + j, none⟩) B2').trans c2j⟩
      have BOTH := Lib.hid both
      have hnext : (X ≠ Y → sumS X ≠ sumS Y) → Calm xs ys (j + 1) := fun h => hno.next gx gy h
      have HX := Lib.hid hnext
      clear gx gy hX hY both hnext k1 k2
      by_cases hxy : X = Y
      · have e1 := str_eq hxy
        have nx := HX.out (fun h => absurd hxy h)
        clear hxy
        go_wp2
        go_quiet (fail)
        go_wp2
        exact ⟨⟨j + 1, by go_num, by omega, by omega, nx, below_drawnN hbr _⟩, by simp only [intOf]; omega⟩
      · have e1 := str_ne hxy
        obtain ⟨P, hP⟩ : ∃ P, P = sumS X := ⟨_, rfl⟩
        obtain ⟨Q, hQ⟩ : ∃ Q, Q = sumS Y := ⟨_, rfl⟩
        have cX := fun W (ht : Tab W) => sum_any X (by omega) W ht
        have cY := fun W (ht : Tab W) => sum_any Y (by omega) W ht
        rw [← hP] at cX
        rw [← hQ] at cY
        by_cases hs : P = Q
        · have e2 := str_eq hs
          clear hxy hs hP hQ
          go_wp2
          go_region_held3 (fun W => Below wr.heap.size wr W ∧ W.cell? ⟨b1, o1 + j, none⟩ = some (.string X) ∧ W.cell? ⟨b2, o2 + j, none⟩ = some (.string Y))
            (first | assumption | exact BOTH.out _ (Below.refl _ _).drew | exact BOTH.out _ (below_step (And.left (by assumption)) (by assumption)))
            (first
              | (go_at_call 13; ((with_reducible refine (cX _ (T1.out.below (And.left (by assumption)))).mono ?_); rintro e w4 ⟨rfl, b4⟩))
              | (go_at_call 13; ((with_reducible refine (cY _ (T1.out.below (And.left (by assumption)))).mono ?_); rintro e w4 ⟨rfl, b4⟩)))
          go_wp2
          go_ret
          exact ⟨true, rfl, fun _ => rfl, below_step hbr (And.left (by assumption))⟩
        · have e2 := str_ne hs
          have nx := HX.out (fun _ => by rw [← hP, ← hQ]; exact hs)
          clear hxy hs hP hQ
          go_wp2
          go_region_held3 (fun W => Below wr.heap.size wr W ∧ W.cell? ⟨b1, o1 + j, none⟩ = some (.string X) ∧ W.cell? ⟨b2, o2 + j, none⟩ = some (.string Y))
            (first | assumption | exact BOTH.out _ (Below.refl _ _).drew | exact BOTH.out _ (below_step (And.left (by assumption)) (by assumption)))
            (first
              | (go_at_call 13; ((with_reducible refine (cX _ (T1.out.below (And.left (by assumption)))).mono ?_); rintro e w4 ⟨rfl, b4⟩))
              | (go_at_call 13; ((with_reducible refine (cY _ (T1.out.below (And.left (by assumption)))).mono ?_); rintro e w4 ⟨rfl, b4⟩)))
          go_wp2
          exact ⟨⟨j + 1, by go_num, by omega, by omega, nx, below_step hbr (And.left (by assumption))⟩, by simp only [intOf]; omega⟩
    · have hd : ¬ Clash xs ys := hno.done (by rw [← L1.out, ← L2.out]; omega)
      by_cases g1 : j < n1
      · have g2 : ¬ j < n2 := fun h => hgo ⟨g1, h⟩
        clear hgo
        go_wp2
        go_ret
        exact ⟨false, rfl, fun h => absurd h hd, hbr⟩
      · clear hgo
        go_wp2
        go_ret
        exact ⟨false, rfl, fun h => absurd h hd, hbr⟩
end Go.Proofs.YtjcamhekhfokhaaDoor
