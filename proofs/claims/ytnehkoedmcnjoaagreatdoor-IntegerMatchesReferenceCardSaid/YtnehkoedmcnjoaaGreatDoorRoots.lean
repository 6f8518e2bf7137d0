/- root: a group of the root for each pair of groups. -/
import Derived.Test.YtnehkoedmcnjoaaGreatDoorDivide
namespace Go.Proofs.YtnehkoedmcnjoaaGreatDoor
open Go.RowKit

set_option maxRecDepth 100000 in
set_option maxHeartbeats 4000000 in
theorem rootf_any (Pt : Nat) (A : Option Addr) (L c t g : Nat) (m : L ≤ 400) (hg : g ≤ 9999) (w : World) (hP : w.cell? ⟨Pt, 0, none⟩ = some (.slice A L c)) (h : Nt w w.heap.size A L c t) :
    Calls Tryz.prog 64 #[.int .i64 (g : Int), .pointer (some ⟨Pt, 0, none⟩)] w fun e w' => ∃ A' L' c', e = .returned (.slice A' L' c') ∧ Nt w' w'.heap.size A' L' c' ((t * 10000 + g) * g) ∧ L' ≤ 900 ∧ Below w.heap.size w w' := by
  obtain ⟨S, hS⟩ : ∃ S, S = t * 10000 + g := ⟨_, rfl⟩
  have cE := extend_at A L c t g S (g : Int) rfl hS (by omega) (by omega) w h
  have hl : ∀ (W : World) (B : Nat) (A' : Option Addr) (L' c' : Nat), Nt W B A' L' c' S → L' ≤ 500 := fun W B A' L' c' h' => by
    have := len_ext (n := t) (x := g) (L' := L') (by rw [← hS]; exact h'.len) h.len (by omega)
    omega
  have cS := fun (A' : Option Addr) (L' c' : Nat) (W : World) (h' : Nt W W.heap.size A' L' c' S) => scale_any A' L' c' S g (by have := hl _ _ _ _ _ h'; omega) (by omega) W h'
  have hl2 : ∀ (W : World) (B : Nat) (A' : Option Addr) (L' c' : Nat), Nt W B A' L' c' (S * g) → L' ≤ 900 := fun W B A' L' c' h' => by
    have h1 := (grp_len S (grp S).length).1 (Nat.le_refl _)
    have := len_mul (n := S) (x := g) h'.len rfl (by omega)
    have h3 : (grp S).length ≤ L + 1 := len_ext (n := t) (x := g) (by rw [hS]) h.len (by omega)
    omega
  rw [← hS]
  have CE := Lib.hid cE; have CS := Lib.hid cS; have HL := Lib.hid hl2
  clear hS cE hl cS hl2 h m
  go_enter Tryz.func64, Tryz.ntmps64
  go_wp2_with (first
    | (go_at_call 61; (with_reducible refine CE.out.mono ?_); rintro e w4 ⟨A4, L4, c4, rfl, hN4, hb4⟩)
    | (go_at_call 62; (with_reducible refine (CS.out _ _ _ _ hN4).mono ?_); rintro e w5 ⟨A5, L5, c5, rfl, hN5, hb5⟩)
    | fail)
  go_ret
  exact ⟨A5, L5, c5, rfl, hN5, HL.out _ _ _ _ _ hN5, below_step hb4 hb5⟩

/-- One group of the root: takeMost with the squares' steps. -/
theorem tmroot_any (Pt : Nat) (At : Option Addr) (Lt ct t : Nat) (mt : Lt ≤ 400) (A : Option Addr) (L c s q : Nat) (m : L ≤ 900) (hq : most (fun g => (t * 10000 + g) * g) s = q) (hle : (t * 10000 + q) * q ≤ s) (w : World) (hP : w.cell? ⟨Pt, 0, none⟩ = some (.slice At Lt ct)) (ht : Nt w w.heap.size At Lt ct t) (h : Nt w w.heap.size A L c s) :
    Calls Tryz.prog 63 #[.slice A L c, .func (.func 64) #[] #[.pointer (some ⟨Pt, 0, none⟩)]] w fun e w' => ∃ A' L' c', e = .returned (.tuple #[.int .i64 (q : Int), .slice A' L' c']) ∧ Nt w' w'.heap.size A' L' c' (s - (t * 10000 + q) * q) ∧ Below w.heap.size w w' := by
  have hl := World.block_lt_of_cell? _ _ hP
  have hc := tm_root Pt A L c s (fun g => (t * 10000 + g) * g) m w h (fun a b hab _ => Nat.mul_le_mul (by omega) hab) (by rw [hq]; exact hle) (fun W hb g hg => rootf_any Pt At Lt ct t g mt hg W ((hb.cell (p := ⟨Pt, 0, none⟩) hl).trans hP) (ht.kept hb))
  rw [hq] at hc
  exact hc
theorem scale_at (A1 : Option Addr) (L1 c1 n1 b N : Nat) (B : Int) (hB : B = (b : Int)) (hN : N = n1 * b) (m1 : L1 ≤ 900) (hb : b < 10000) (w : World) (h1 : Nt w w.heap.size A1 L1 c1 n1) :
    Calls Tryz.prog 62 #[.slice A1 L1 c1, .int .i64 B] w fun e w' => ∃ A L c, e = .returned (.slice A L c) ∧ Nt w' w'.heap.size A L c N ∧ Below w.heap.size w w' := by
  subst hB hN
  exact scale_any A1 L1 c1 n1 b m1 hb w h1
theorem root_rest {e : Bool} {v r s : Nat} (h : RootAt e v r s) : s ≤ v ∧ r ≤ v := by
  unfold RootAt at h
  have h2 : r ≤ r * r := by
    rcases Nat.eq_zero_or_pos r with h0 | h0
    · omega
    · exact Nat.le_mul_of_pos_left r h0
  generalize r * r = q at *
  split at h <;> omega
theorem len_le {w : World} {B : Nat} {A : Option Addr} {L c a n M : Nat} (h : Nt w B A L c a) (hM : M = (grp n).length) (hle : a ≤ n) : L ≤ M := by
  rw [h.len, grp_len]
  exact Nat.lt_of_le_of_lt hle ((grp_len n M).1 (by rw [hM]; exact Nat.le_refl _))

set_option maxRecDepth 100000 in
set_option maxHeartbeats 8000000 in
theorem root_any (A1 : Option Addr) (L1 c1 n1 : Nat) (m1 : L1 ≤ 300) (w : World) (h1 : Nt w w.heap.size A1 L1 c1 n1) :
    Calls Tryz.prog 45 #[.slice A1 L1 c1] w fun e w' => ∃ A L c, e = .returned (.slice A L c) ∧ Nt w' w'.heap.size A L c (rt n1) ∧ Below w.heap.size w w' := by
  have hmf : ∀ (fn : Fn) (first cap : Array Value) (w : World), (Instr.makeFunc fn first cap).run Tryz.prog w = .ok (.func fn first cap) w := fun _ _ _ _ => rfl
  have H1 := Lib.hid h1
  clear h1
  go_enter Tryz.func45, Tryz.ntmps45
  go_wp2
  go_loopw [3, 4, 5, 6, 7, 8, 9, 12] (fun vr vs _ _ _ _ _ p wr => ∃ (j r s : Nat) (Ar : Option Addr) (Lr cr : Nat) (As : Option Addr) (Ls cs : Nat), p = .int .i64 j ∧ vr = .slice Ar Lr cr ∧ vs = .slice As Ls cs ∧ j ≤ L1 ∧ Nt wr wr.heap.size Ar Lr cr r ∧ Nt wr wr.heap.size As Ls cs s ∧
    Hid (RootAt ((L1 - j) % 2 == 0) (preN n1 j) r s) ∧ Below w.heap.size w wr) (fun _ _ _ _ _ _ _ p _ => L1 - (intOf p).toNat)
  case atStart => exact ⟨0, 0, 0, none, 0, 0, none, 0, 0, rfl, rfl, rfl, by omega, nt_zero _ _, nt_zero _ _, Lib.hid (by rw [preN_zero]; exact root_start _), Below.refl _ _⟩
  case round =>
    obtain ⟨j, r, s, Ar, Lr, cr, As, Ls, cs, rfl, rfl, rfl, hj, hNr, hNs, HV, hbr⟩ := hrel
    by_cases hlt : j < L1
    · obtain ⟨x, hx, hx1⟩ := grp_nat (n := n1) (j := j) (by rw [← H1.out.len]; exact hlt)
      rcases H1.out.ints with hn | ⟨b, o, rfl, hbB, hcell⟩
      · rw [hn] at hx; simp at hx
      have hs := preN_succ hx
      have hcx := (hbr.cell (p := ⟨b, o + j, none⟩) hbB).trans (hcell j x hx)
      have jl : (j : Int) < (L1 : Int) := by omega
      have hrs := root_rest HV.out
      have hvn := preN_le n1 j
      have hLr := len_le hNr H1.out.len (by omega)
      have hLs := len_le hNs H1.out.len (by omega)
      obtain ⟨D, hD⟩ : ∃ D, D = L1 - 1 := ⟨_, rfl⟩
      obtain ⟨G, hG⟩ : ∃ G, G = D - j := ⟨_, rfl⟩
      have eD : ((L1 : Int) - 1) = (D : Int) := by omega
      have eG : ((D : Int) - (j : Int)) = (G : Int) := by omega
      have wD : IntKind.i64.wrap ((L1 : Int) - 1) = (D : Int) := by rw [IntWalk.i64_in _ (by omega)]; omega
      have wG : IntKind.i64.wrap ((D : Int) - (j : Int)) = (G : Int) := by rw [IntWalk.i64_in _ (by omega)]; omega
      obtain ⟨S, hS⟩ : ∃ S, S = s * 10000 + x := ⟨_, rfl⟩
      have cE := extend_at As Ls cs s x S (x : Int) rfl hS (by omega) hx1 wr hNs
      have HX := Lib.hid hx1
      by_cases hodd : G % 2 = 1
      · have hb1 : ((L1 - j) % 2 == 0) = true := by rw [beq_iff_eq]; omega
        have hb2 : ((L1 - (j + 1)) % 2 == 0) = false := by rw [beq_eq_false_iff_ne]; omega
        have hR := HV.out
        rw [hb1] at hR
        have hR2 := root_open hR hx1
        rw [← hs, ← hS] at hR2
        have HR := Lib.hid hR2; have HB2 := Lib.hid hb2; have CE := Lib.hid cE; have HBR := Lib.hid hbr; have HNR := Lib.hid hNr; have HNS := Lib.hid hNs
        have ho : ((G : Int) % 2 == 1) = true := by rw [beq_iff_eq]; omega
        have ho2 : ((G : Int).tmod 2 == 1) = true := by rw [Int.tmod_eq_emod_of_nonneg (by omega)]; exact ho
        clear hb1 hb2 hR hR2 hs hS cE hbr hNr hNs hrs hvn hLr hLs hD hG hcell hx HV
        go_wp2_with (first
          | (go_at_call 61; (with_reducible refine CE.out.mono ?_); rintro e w4 ⟨A4, L4, c4, rfl, hN4, hb4⟩)
          | fail)
        go_roundw
        case rel => exact ⟨j + 1, r, S, Ar, Lr, cr, A4, L4, c4, by go_num, rfl, rfl, by omega, HNR.out.kept hb4, hN4, by rw [HB2.out]; exact HR, below_step HBR.out hb4⟩
        case measure => simp [intOf]; omega
      · have hb1 : ((L1 - j) % 2 == 0) = false := by rw [beq_eq_false_iff_ne]; omega
        have hb2 : ((L1 - (j + 1)) % 2 == 0) = true := by rw [beq_iff_eq]; omega
        have hR := HV.out
        rw [hb1] at hR
        obtain ⟨q, hq9, hq, hle, hR2⟩ := root_shut hR hx1
        rw [← hs] at hR2
        rw [← hS] at hq hle hR2
        obtain ⟨T, hT⟩ : ∃ T, T = r * 2 := ⟨_, rfl⟩
        obtain ⟨N, hN⟩ : ∃ N, N = r * 10000 + q := ⟨_, rfl⟩
        obtain ⟨V, hV⟩ : ∃ V, V = S - (T * 10000 + q) * q := ⟨_, rfl⟩
        rw [← hT] at hq hle hR2
        rw [← hN, ← hV] at hR2
        have cS := fun (W : World) (h : Nt W W.heap.size Ar Lr cr r) => scale_at Ar Lr cr r 2 T (2 : Int) rfl hT (by omega) (by decide) W h
        have hLT : ∀ (W : World) (B : Nat) (A' : Option Addr) (L' c' : Nat), Nt W B A' L' c' T → L' ≤ 400 := fun W B A' L' c' h' => by
          have := len_mul (n := r) (x := 2) (L' := L') (by rw [← hT]; exact h'.len) hNr.len (by decide)
          omega
        have hLS : ∀ (W : World) (B : Nat) (A' : Option Addr) (L' c' : Nat), Nt W B A' L' c' S → L' ≤ 900 := fun W B A' L' c' h' => by
          have := len_ext (n := s) (x := x) (L' := L') (by rw [← hS]; exact h'.len) hNs.len hx1
          omega
        have cT := fun (Pt : Nat) (At : Option Addr) (Lt ct : Nat) (A : Option Addr) (L c : Nat) (W : World) (hP : W.cell? ⟨Pt, 0, none⟩ = some (.slice At Lt ct)) (ht : Nt W W.heap.size At Lt ct T) (h : Nt W W.heap.size A L c S) =>
          tmroot_any Pt At Lt ct T (hLT _ _ _ _ _ ht) A L c S q (hLS _ _ _ _ _ h) hq hle W hP ht h
        rw [← hV] at cT
        have cE2 := fun (W : World) (h : Nt W W.heap.size Ar Lr cr r) => extend_at Ar Lr cr r q N (q : Int) rfl hN (by omega) (by omega) W h
        have HR := Lib.hid hR2; have HB2 := Lib.hid hb2; have CE := Lib.hid cE; have HBR := Lib.hid hbr; have HNR := Lib.hid hNr; have HNS := Lib.hid hNs
        have CS := Lib.hid cS; have CT := Lib.hid cT; have CE2 := Lib.hid cE2
        have ho : ((G : Int) % 2 == 1) = false := by rw [beq_eq_false_iff_ne]; omega
        have ho2 : ((G : Int).tmod 2 == 1) = false := by rw [Int.tmod_eq_emod_of_nonneg (by omega)]; exact ho
        clear hb1 hb2 hR hR2 hs hS cE hbr hNr hNs hrs hvn hLr hLs hD hG hcell hx HV hq9 hq hle hT hN hV cS hLT hLS cT cE2
        go_wp2_with (first
          | (go_at_call 61; (with_reducible refine CE.out.mono ?_); rintro e w4 ⟨A4, L4, c4, rfl, hN4, hb4⟩)
          | (go_at_call 62; (with_reducible refine (CS.out _ (HNR.out.kept hb4)).mono ?_); rintro e w5 ⟨A5, L5, c5, rfl, hN5, hb5⟩)
          | (go_at_call 63; (with_reducible refine (CT.out w5.heap.size A5 L5 c5 _ _ _ _ ((Row.made w5 _ _).at rfl) (hN5.kept (below_alloc w5 _)) ((hN4.kept hb5).kept (below_alloc w5 _))).mono ?_); rintro e w6 ⟨A6, L6, c6, rfl, hN6, hb6⟩)
          | (go_at_call 61; (with_reducible refine (CE2.out _ ((((HNR.out.kept hb4).kept hb5).kept (below_alloc w5 _)).kept hb6)).mono ?_); rintro e w7 ⟨A7, L7, c7, rfl, hN7, hb7⟩)
          | fail)
        go_roundw
        case rel => exact ⟨j + 1, N, V, A7, L7, c7, A6, L6, c6, by go_num, rfl, rfl, by omega, hN7, hN6.kept hb7, by rw [HB2.out]; exact HR, below_step (below_step (below_step (below_step (below_step HBR.out hb4) hb5) (below_alloc w5 _)) hb6) hb7⟩
        case measure => simp [intOf]; omega
    · obtain rfl : j = L1 := by omega
      have hv := HV.out
      rw [preN_all (by rw [← H1.out.len]; exact Nat.le_refl _), Nat.sub_self] at hv
      have hr : r = rt n1 := root_done hv
      rw [hr] at hNr
      have HNR := Lib.hid hNr; have HBR := Lib.hid hbr
      clear hv hr hNr hNs hbr HV
      go_wp2
      go_ret
      exact ⟨Ar, Lr, cr, rfl, HNR.out, HBR.out⟩
end Go.Proofs.YtnehkoedmcnjoaaGreatDoor
