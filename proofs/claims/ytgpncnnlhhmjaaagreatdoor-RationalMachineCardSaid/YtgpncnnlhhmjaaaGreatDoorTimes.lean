/- times: a sum folded over the groups. -/
import Derived.Test.YtgpncnnlhhmjaaaGreatDoorExt
namespace Go.Proofs.YtgpncnnlhhmjaaaGreatDoor
open Go.RowKit

theorem len_ext {n x L L' : Nat} (h' : L' = (grp (n * 10000 + x)).length) (h : L = (grp n).length) (hx : x < 10000) : L' ≤ L + 1 := by
  rw [h', grp_len, Nat.pow_succ]
  have := (grp_len n L).1 (by rw [h]; exact Nat.le_refl _)
  omega
theorem len_mul {n x L L' : Nat} (h' : L' = (grp (n * x)).length) (h : L = (grp n).length) (hx : x < 10000) : L' ≤ L + 1 := by
  rw [h', grp_len, Nat.pow_succ]
  have := (grp_len n L).1 (by rw [h]; exact Nat.le_refl _)
  exact Nat.lt_of_le_of_lt (Nat.mul_le_mul_left n (show x ≤ 10000 by omega)) (Nat.mul_lt_mul_of_pos_right this (by decide))
set_option maxRecDepth 100000 in
set_option maxHeartbeats 8000000 in
theorem tstep_any (B : Nat) (A1 A : Option Addr) (L1 c1 n1 L c n x : Nat) (m1 : L1 ≤ 300) (m2 : L ≤ 700) (hx : x < 10000) (w : World) (hB : w.cell? ⟨B, 0, none⟩ = some (.slice A1 L1 c1)) (h1 : Nt w w.heap.size A1 L1 c1 n1) (h : Nt w w.heap.size A L c n) :
    Calls Tryz.prog 160 #[.slice A L c, .int .i64 (x : Int), .pointer (some ⟨B, 0, none⟩)] w fun e w' => ∃ A' L' c', e = .returned (.slice A' L' c') ∧ Nt w' w'.heap.size A' L' c' (n * 10000 + n1 * x) ∧ Below w.heap.size w w' := by
  have hBl : B < w.heap.size := World.block_lt_of_cell? _ _ hB
  have H1 := Lib.hid h1; have H := Lib.hid h
  have both : ∀ W, Below w.heap.size w W → (Below w.heap.size w W ∧ W.cell? ⟨B, 0, none⟩ = some (.slice A1 L1 c1)) := fun W hb => ⟨hb, (hb.cell (p := ⟨B, 0, none⟩) hBl).trans hB⟩
  have BOTH := Lib.hid both
  have cE : ∀ W, Nt W W.heap.size A L c n → Calls Tryz.prog 127 #[.slice A L c, .int .i64 0] W fun e w' => ∃ A L c, e = .returned (.slice A L c) ∧ Nt w' w'.heap.size A L c (n * 10000) ∧ Below W.heap.size W w' := fun W h => extend_at A L c n 0 (n * 10000) 0 (by decide) (by omega) (by omega) (by decide) W h
  have cS := fun W (h : Nt W W.heap.size A1 L1 c1 n1) => scale_any A1 L1 c1 n1 x (by omega) hx W h
  have lE : ∀ W X A' L' c', Nt W X A' L' c' (n * 10000) → L' ≤ 900 := fun _ _ _ L' _ h' => by
    have := len_ext (n := n) (x := 0) (L' := L') (by rw [Nat.add_zero]; exact h'.len) H.out.len (by decide)
    omega
  have lS : ∀ W X A' L' c', Nt W X A' L' c' (n1 * x) → L' ≤ 900 := fun _ _ _ _ _ h' => by
    have := len_mul h'.len H1.out.len hx
    omega
  have LE := Lib.hid lE
  have LS := Lib.hid lS
  clear both h1 h lE lS
  go_enter Tryz.func160, Tryz.ntmps160
  go_wp2
  go_region_held3 (fun W => Below w.heap.size w W ∧ W.cell? ⟨B, 0, none⟩ = some (.slice A1 L1 c1))
    (first | assumption | exact BOTH.out _ (Below.refl _ _).drew | exact BOTH.out _ (below_step (And.left (by assumption)) (by assumption)))
    (first
      | (go_at_call 127; ((with_reducible refine (cE _ (H.out.kept (And.left (by assumption)))).mono ?_); rintro e w4 ⟨A4, L4, c4, rfl, hN4, b4⟩))
      | (go_at_call 128; ((with_reducible refine (cS _ (H1.out.kept (And.left (by assumption)))).mono ?_); rintro e w5 ⟨A5, L5, c5, rfl, hN5, b5⟩))
      | (go_at_call 103; ((with_reducible refine (plus_any _ _ _ _ _ _ _ _ (LE.out _ _ _ _ _ hN4) (LS.out _ _ _ _ _ hN5) _ (by first | exact hN4 | exact hN4.kept b5 | exact hN4.later (Nat.le_refl _) rfl b5) (by first | exact hN5 | exact hN5.kept b4 | exact hN5.later (Nat.le_refl _) rfl b4)).mono ?_); rintro e w6 ⟨A6, L6, c6, rfl, hN6, b6⟩)))
  all_goals go_wp2
  all_goals go_ret
  all_goals exact ⟨_, _, _, rfl, hN6, And.left (by assumption)⟩

/-- The number of the first j groups. -/
def preN (n j : Nat) : Nat := (gv ((grp n).take j)).toNat
theorem preN_int (n j : Nat) : ((preN n j : Nat) : Int) = gv ((grp n).take j) := Int.toNat_of_nonneg (gv_lt (fun g hg => gs_grp n g (List.mem_of_mem_take hg))).1
theorem preN_zero (n : Nat) : preN n 0 = 0 := by rw [preN, List.take_zero]; rfl
theorem preN_succ {n j x : Nat} (hx : (grp n)[j]? = some (x : Int)) : preN n (j + 1) = preN n j * 10000 + x := by
  have h : gv ((grp n).take (j + 1)) = gv ((grp n).take j) * 10000 + x := by rw [List.take_add_one, hx]; exact gv_snoc _ _
  have h1 := preN_int n j
  have h2 := preN_int n (j + 1)
  omega
theorem preN_all {n j : Nat} (h : (grp n).length ≤ j) : preN n j = n := by rw [preN, List.take_of_length_le h, gv_grp]; rfl
theorem preN_lt (n j : Nat) : preN n j < 10000 ^ j := by
  have h := (gv_lt (l := (grp n).take j) (fun g hg => gs_grp n g (List.mem_of_mem_take hg))).2
  have h1 := preN_int n j
  have h2 : ((preN n j : Nat) : Int) < 10000 ^ ((grp n).take j).length := by omega
  have h3 : preN n j < 10000 ^ ((grp n).take j).length := by
    have e : ((10000 ^ ((grp n).take j).length : Nat) : Int) = 10000 ^ ((grp n).take j).length := Int.natCast_pow _ _
    omega
  exact Nat.lt_of_lt_of_le h3 (Nat.pow_le_pow_right (by decide) (by rw [List.length_take]; exact Nat.min_le_left _ _))
theorem grp_pre (n j : Nat) : grp (preN n j) = (grp n).take j := by
  refine grp_gv _ _ rfl (fun g hg => gs_grp n g (List.mem_of_mem_take hg)) ?_
  rw [List.head?_take]
  split
  · simp
  · exact grp_head n
theorem len_prod {a b i j L : Nat} (ha : a < 10000 ^ i) (hb : b < 10000 ^ j) (hL : L = (grp (a * b)).length) : L ≤ i + j := by
  rw [hL, grp_len, Nat.pow_add]
  exact Nat.mul_lt_mul'' ha hb
theorem nt_lt {w : World} {B : Nat} {A : Option Addr} {L c n : Nat} (h : Nt w B A L c n) : n < 10000 ^ L := (grp_len n L).1 (by rw [h.len]; exact Nat.le_refl _)
/-- A group is a natural number. -/
theorem grp_nat {n j : Nat} (h : j < (grp n).length) : ∃ x : Nat, (grp n)[j]? = some (x : Int) ∧ x < 10000 := by
  have h1 := gs_grp n ((grp n)[j]) (List.getElem_mem h)
  refine ⟨((grp n)[j]).toNat, ?_, by omega⟩
  rw [List.getElem?_eq_getElem h, Int.toNat_of_nonneg h1.1]

set_option maxRecDepth 100000 in
set_option maxHeartbeats 4000000 in
theorem fold_any (B : Nat) (A1 A2 : Option Addr) (L1 c1 n1 L2 c2 n2 : Nat) (m1 : L1 ≤ 300) (m2 : L2 ≤ 300) (w : World) (hB : w.cell? ⟨B, 0, none⟩ = some (.slice A1 L1 c1)) (h1 : Nt w w.heap.size A1 L1 c1 n1) (h2 : Nt w w.heap.size A2 L2 c2 n2) :
    Calls Tryz.prog 159 #[.slice A2 L2 c2, .slice none 0 0, .func (.func 160) #[] #[.pointer (some ⟨B, 0, none⟩)]] w fun e w' => ∃ A L c, e = .returned (.slice A L c) ∧ Nt w' w'.heap.size A L c (n1 * n2) ∧ Below w.heap.size w w' := by
  have hBl : B < w.heap.size := World.block_lt_of_cell? _ _ hB
  have H1 := Lib.hid h1; have H2 := Lib.hid h2; have HB := Lib.hid hB
  clear h1 h2 hB
  go_enter Tryz.func159, Tryz.ntmps159
  go_wp2
  go_loopw [7, 9, 13] (fun v _ p wr => ∃ (j : Nat) (A : Option Addr) (L c : Nat), p = .int .i64 j ∧ v = .slice A L c ∧ j ≤ L2 ∧ Nt wr wr.heap.size A L c (n1 * preN n2 j) ∧ Below w.heap.size w wr) (fun _ _ p _ => L2 - (intOf p).toNat)
  case atStart => exact ⟨0, none, 0, 0, rfl, rfl, by omega, by rw [preN_zero, Nat.mul_zero]; exact nt_zero _ _, Below.refl _ _⟩
  case round =>
    obtain ⟨j, A, L, c, rfl, rfl, hj, hN, hbr⟩ := hrel
    by_cases hlt : j < L2
    · obtain ⟨x, hx, hx1⟩ := grp_nat (n := n2) (j := j) (by rw [← H2.out.len]; exact hlt)
      have hs := preN_succ hx
      have hL : L ≤ 700 := by
        have := len_prod (nt_lt H1.out) (preN_lt n2 j) hN.len
        omega
      rcases H2.out.ints with hn | ⟨b, o, rfl, hbB, hcell⟩
      · rw [hn] at hx; simp at hx
      have hcx := (hbr.cell (p := ⟨b, o + j, none⟩) hbB).trans (hcell j x hx)
      have jl : (j : Int) < (L2 : Int) := by omega
      have cT := tstep_any B A1 A L1 c1 n1 L c (n1 * preN n2 j) x m1 hL hx1 wr ((hbr.cell (p := ⟨B, 0, none⟩) hBl).trans HB.out) (H1.out.kept hbr) hN
      have hnew : n1 * preN n2 j * 10000 + n1 * x = n1 * preN n2 (j + 1) := by rw [hs, Nat.mul_add, Nat.mul_assoc]
      rw [hnew] at cT
      have HBR := Lib.hid hbr
      clear hx hs hL hcell hnew hN hbr
      go_wp2_with (first | (go_at_call 160; (refine cT.mono ?_); rintro e w' ⟨A', L', c', rfl, hN', hb'⟩) | fail)
      go_roundw
      case rel => exact ⟨j + 1, A', L', c', by go_num, rfl, by omega, hN', below_step HBR.out hb'⟩
      case measure => simp [intOf]; omega
    · obtain rfl : j = L2 := by omega
      rw [preN_all (by rw [← H2.out.len]; exact Nat.le_refl _)] at hN
      have HN := Lib.hid hN; have HBR := Lib.hid hbr
      clear hN hbr
      go_wp2
      go_ret
      exact ⟨A, L, c, rfl, HN.out, HBR.out⟩

set_option maxRecDepth 100000 in
set_option maxHeartbeats 4000000 in
theorem times_any (A1 A2 : Option Addr) (L1 c1 n1 L2 c2 n2 : Nat) (m1 : L1 ≤ 300) (m2 : L2 ≤ 300) (w : World) (h1 : Nt w w.heap.size A1 L1 c1 n1) (h2 : Nt w w.heap.size A2 L2 c2 n2) :
    Calls Tryz.prog 143 #[.slice A1 L1 c1, .slice A2 L2 c2] w fun e w' => ∃ A L c, e = .returned (.slice A L c) ∧ Nt w' w'.heap.size A L c (n1 * n2) ∧ Below w.heap.size w w' := by
  have hmf : ∀ (fn : Fn) (first cap : Array Value) (w : World), (Instr.makeFunc fn first cap).run Tryz.prog w = .ok (.func fn first cap) w := fun _ _ _ _ => rfl
  have hb0 := below_alloc w (.cells #[.slice A1 L1 c1] 89)
  have cF := fold_any w.heap.size A1 A2 L1 c1 n1 L2 c2 n2 m1 m2 (w.alloc (.cells #[.slice A1 L1 c1] 89)) ((Row.made w 89 #[.slice A1 L1 c1]).at rfl) (h1.kept hb0) (h2.kept hb0)
  have HB := Lib.hid hb0
  clear h1 h2 hb0
  go_enter Tryz.func143, Tryz.ntmps143
  go_wp2_with (first | (go_at_call 159; (refine cF.mono ?_); rintro e w' ⟨A', L', c', rfl, hN', hb'⟩) | fail)
  go_ret
  exact ⟨A', L', c', rfl, hN', below_step HB.out hb'⟩
end Go.Proofs.YtgpncnnlhhmjaaaGreatDoor
