/- text writes a natural; readNatural reads one. -/
import Derived.Test.YtgpncnnlhhmjaaaGreatDoorByt
namespace Go.Proofs.YtgpncnnlhhmjaaaGreatDoor
open Go.RowKit

theorem txtG_add {l : List Int} {j : Nat} {x : Nat} (hl : l[j + 1]? = some (x : Int)) : txtG (l.take (j + 1 + 1)) = txtG (l.take (j + 1)) ++ pad4 x := by
  match l, hl with
  | g :: r, hl =>
    have hr : r[j]? = some (x : Int) := by simpa using hl
    rw [List.take_succ_cons, List.take_succ_cons, txtG, txtG, List.take_add_one, hr]
    simp
theorem txtG_one {l : List Int} {x : Nat} (hl : l[0]? = some (x : Int)) : txtG (l.take 1) = Lib.decDigits x := by
  match l, hl with
  | g :: r, hl =>
    have hr : g = (x : Int) := by simpa using hl
    subst hr
    simp [txtG]
theorem dec_nat (n : Nat) : dec (n : Int) = str (Lib.decDigits n) := by rw [dec, Lib.itoa, if_neg (by omega)]; rfl
theorem dec_size (n k : Nat) (h : n < 10 ^ (k + 1)) : (dec (n : Int)).size ≤ k + 1 := by
  rw [dec_nat]
  have := (decDigits_len_le n k).2 h
  exact this
theorem pad_extract (g : Nat) (h : g < 10000) : (dec ((10000 + g : Nat) : Int)).extract 1 5 = str (pad4 g) ∧ (dec ((10000 + g : Nat) : Int)).size = 5 := by
  rw [dec_nat, pad4]
  have hl : (Lib.decDigits (10000 + g)).length = 5 := by
    have h1 := (decDigits_len_le (10000 + g) 4).2 (by omega)
    have h2 : ¬ (Lib.decDigits (10000 + g)).length ≤ 3 + 1 := by rw [decDigits_len_le]; omega
    omega
  generalize Lib.decDigits (10000 + g) = l at hl ⊢
  match l, hl with
  | [a, b, c, d, e], _ => exact ⟨by apply ByteArray.ext; simp [str, ByteArray.extract, ByteArray.copySlice], rfl⟩
theorem pad_len (g : Nat) (h : g < 10000) : (str (pad4 g)).size = 4 := by rw [pad4_eq g h]; rfl

set_option maxRecDepth 100000 in
set_option maxHeartbeats 8000000 in
theorem text_any (A1 : Option Addr) (L1 c1 n1 : Nat) (m1 : L1 ≤ 900) (w : World) (h1 : Nt w w.heap.size A1 L1 c1 n1) (ht : Tab w) :
    Calls Tryz.prog 106 #[.slice A1 L1 c1] w fun e w' => e = .returned (.string (str (Lib.decDigits n1))) ∧ Below w.heap.size w w' := by
  have H1 := Lib.hid h1
  have HT := Lib.hid ht
  rcases h1.ints with hn | ⟨b, o, rfl, hbB, hcell⟩
  · have hz : L1 = 0 := by rw [h1.len, hn]; rfl
    have hz2 := grp_nil.1 hn
    subst hz hz2
    rw [decDigits_zero]
    clear h1 ht hn
    go_enter Tryz.func106, Tryz.ntmps106
    go_wp2
    go_ret
    exact ⟨rfl, Below.refl _ _⟩
  · by_cases hz : L1 = 0
    · have hz2 : n1 = 0 := by rw [← grp_nil]; exact List.eq_nil_of_length_eq_zero (by rw [← h1.len]; exact hz)
      subst hz hz2
      rw [decDigits_zero]
      clear h1 ht hcell
      go_enter Tryz.func106, Tryz.ntmps106
      go_wp2
      go_ret
      exact ⟨rfl, Below.refl _ _⟩
    · obtain ⟨x, hx, hx1⟩ := grp_nat (n := n1) (j := 0) (by rw [← h1.len]; omega)
      have hcx := hcell 0 x hx
      rw [Nat.add_zero] at hcx
      have hL0 : (0 : Int) < (L1 : Int) := by omega
      have hb0 : ((L1 : Int) == 0) = false := by rw [beq_eq_false_iff_ne]; omega
      have hcap := h1.cap
      have htop := h1.top
      have c1l : (1 : Int) ≤ (c1 : Int) := by omega
      have l1l : (1 : Int) ≤ (L1 : Int) := by omega
      have hadd : (⟨b, o, none⟩ : Addr).add 1 = ⟨b, o + 1, none⟩ := add_off b o 1
      have cI := itoa_any (x : Int) (by omega) (by omega) w ht
      obtain ⟨X, hX⟩ : ∃ X, X = dec (x : Int) := ⟨_, rfl⟩
      rw [← hX] at cI
      have hXl : X.data.toList = txtG ((grp n1).take 1) := by rw [hX, dec_nat, txtG_one hx]; rfl
      have hXs : X.size ≤ 4 := by rw [hX]; exact dec_size x 3 (by omega)
      have HXL := Lib.hid hXl
      have HC := Lib.hid hcell
      have CI := Lib.hid cI
      clear hX hXl hcell h1 ht hx cI
      obtain ⟨N, hN⟩ : ∃ N, N = L1 - 1 := ⟨_, rfl⟩
      have HN := Lib.hid hN
      have hN9 : N ≤ 900 := by omega
      by_cases h1L : L1 = 1
      · have hfin : X = str (Lib.decDigits n1) := by
          rw [← txt_grp n1, ← List.take_of_length_le (l := grp n1) (i := 1) (by rw [← H1.out.len]; omega), ← HXL.out]; rfl
        have HF := Lib.hid hfin
        subst h1L
        clear hfin hN
        go_enter Tryz.func106, Tryz.ntmps106
        go_wp2_with (first
          | (go_at_call 90; (with_reducible refine CI.out.mono ?_); rintro e w1 ⟨rfl, hb1⟩; obtain ⟨v1, w2, hr1, hO, hb2⟩ := run_bytes w1 X (by omega); have hr2 := run_string w2 w1.heap.size v1 X.size X.data.toList hO)
          | fail)
        all_goals (refine wp_loop_rounds 1 ?_; rw [rounds_succ])
        all_goals go_wp2
        all_goals go_ret
        all_goals exact ⟨by rw [← HF.out]; rfl, below_step hb1 hb2⟩
      · have hc1 : ¬ c1 = 1 := by omega
        go_enter Tryz.func106, Tryz.ntmps106
        go_wp2_with (first
          | (go_at_call 90; (with_reducible refine CI.out.mono ?_); rintro e w1 ⟨rfl, hb1⟩; obtain ⟨v1, w2, hr1, hO, hb2⟩ := run_bytes w1 X (by omega))
          | fail)
        rw [← hN]
        clear hN
        have hb12 := below_step hb1 hb2
        have HO := Lib.hid hO; have HB := Lib.hid hb12; have HB1 := Lib.hid hb1
        clear hr1 hO hb1 hb2 hb12 hc1
        go_loopw [3, 5, 17] (fun v _ p wr => ∃ (j n : Nat), p = .int .i64 j ∧ j ≤ N ∧ n ≤ 4 + 4 * j ∧ OwnB wr w.heap.size v n (txtG ((grp n1).take (j + 1))) ∧ Below w.heap.size w wr) (fun _ _ p _ => N - (intOf p).toNat)
        case atStart =>
          refine ⟨0, X.size, rfl, by omega, by omega, ?_, HB.out⟩
          rw [show (0 + 1) = 1 from rfl, ← HXL.out]
          obtain ⟨g, cap, h⟩ := HO.out
          exact ⟨g, cap, h.1, Nat.le_trans HB1.out.size h.2.1, h.2.2⟩
        case round =>
          obtain ⟨j, n, rfl, hj, hn, hO, hbr⟩ := hrel
          by_cases hlt : j < N
          · obtain ⟨y, hy, hy1⟩ := grp_nat (n := n1) (j := j + 1) (by rw [← H1.out.len]; have := HN.out; omega)
            have hcy0 := HC.out (j + 1) y hy
            rw [show o + (j + 1) = o + 1 + j by omega] at hcy0
            have hcy := (hbr.cell (p := ⟨b, o + 1 + j, none⟩) hbB).trans hcy0
            have hpad := pad_extract y hy1
            have hpl := pad_len y hy1
            obtain ⟨Z, hZ⟩ : ∃ Z, Z = 10000 + y := ⟨_, rfl⟩
            rw [← hZ] at hpad
            have eZ : (10000 : Int) + (y : Int) = (Z : Int) := by omega
            have wZ : IntKind.i64.wrap ((10000 : Int) + (y : Int)) = (Z : Int) := by rw [IntWalk.i64_in _ (by omega)]; omega
            obtain ⟨S, hS⟩ : ∃ S, S = dec (Z : Int) := ⟨_, rfl⟩
            obtain ⟨U, hU⟩ : ∃ U, U = str (pad4 y) := ⟨_, rfl⟩
            have cZ := itoa_any (Z : Int) (by omega) (by omega) wr (HT.out.below hbr)
            rw [← hS, ← hU] at hpad
            rw [← hS] at cZ
            rw [← hU] at hpl
            have hs5 := hpad.2
            have hsl := hpad.1
            have hUl : U.data.toList = pad4 y := by rw [hU]; rfl
            have htx := txtG_add hy
            have CZ := Lib.hid cZ; have HTX := Lib.hid htx; have HUL := Lib.hid hUl; have HO := Lib.hid hO; have HBR := Lib.hid hbr; have HPL := Lib.hid hpl
            have jN : (j : Int) < (N : Int) := by omega
            clear hy hcy0 hpad hZ hS hU cZ htx hUl hO hbr hpl
            go_wp2_with (first
              | (go_at_call 90; (with_reducible refine CZ.out.mono ?_); rintro e w1 ⟨rfl, hb1⟩; obtain ⟨v3, w3, hr3, hO3, hB3⟩ := run_append_str w1 48 w.heap.size _ n _ (HO.out.far hb1) U (by rw [HPL.out]; omega); have HR3 := Lib.hid hr3; clear hr3)
              | (at_builtin; refine Lib.wpList_append_run _ rfl _ _ _ _ rfl _ _ rfl rfl _ _ HR3.out ?_)
              | fail)
            go_roundw
            case rel =>
              refine ⟨j + 1, n + U.size, by go_num, by omega, by rw [HPL.out]; omega, ?_, hB3 _ _ (Nat.le_refl _) (below_step HBR.out hb1).size (below_step HBR.out hb1)⟩
              rw [HTX.out, ← HUL.out]; exact hO3
            case measure => simp [intOf]; omega
          · obtain rfl : j = N := by omega
            have hfin : txtG ((grp n1).take (j + 1)) = Lib.decDigits n1 := by
              rw [List.take_of_length_le (by rw [← H1.out.len]; have := HN.out; omega), txt_grp]
            rw [hfin] at hO
            have hr2 := run_string wr w.heap.size _ n _ hO
            have HBR := Lib.hid hbr
            clear hfin hO hbr
            go_wp2
            go_ret
            exact ⟨rfl, HBR.out⟩
end Go.Proofs.YtgpncnnlhhmjaaaGreatDoor
