/- The reference's digits: an integer's sign and its digits. The reference's Valid. The reference's digits, the walk. The reference's digits, of every valid integer. -/
import Derived.Test.YtgpncnnlhhmjaaaGreatDoorRdv
import Derived.Test.YtgpncnnlhhmjaaaGreatDoorBd
import Derived.Test.YtgpncnnlhhmjaaaGreatDoorDlm
namespace Go.Proofs.YtgpncnnlhhmjaaaGreatDoor
open Go.RowKit

/-- The digits of a number, the highest first, as a string. -/
def magN (n : Nat) : ByteArray := str (Lib.decDigits n)
theorem magN_zero : magN 0 = ⟨#[48]⟩ := by rw [magN, decDigits_zero]; rfl
theorem magN_list (n : Nat) (h : 0 < n) : (magN n).data.toList = wrt (dg n) := by rw [magN, wrt_dg n h]; rfl
theorem magN_size (n : Nat) (h : 0 < n) : (magN n).size = (dg n).length := by
  have := congrArg List.length (magN_list n h)
  rw [wrt_len, Array.length_toList] at this
  exact this
theorem magN_ne (n : Nat) (h : 0 < n) : ¬ magN n = ⟨#[48]⟩ := fun e => by
  have := decDigits_head n h
  have e2 : Lib.decDigits n = [48] := congrArg (fun s : ByteArray => s.data.toList) e
  rw [e2] at this
  exact this rfl
theorem wrt_at {l : List Nat} {j m d : Nat} (h : l[m]? = some d) (hj : j + 1 + m = l.length) : (wrt l)[j]? = some (UInt8.ofNat (48 + d)) := by
  rw [wrt, List.getElem?_map, List.getElem?_reverse (by omega), show l.length - 1 - j = m by omega, h]; rfl
theorem magN_at {n m d J : Nat} (h0 : 0 < n) (h : (dg n)[m]? = some d) (hj : J + 1 + m = (dg n).length) (hJ : J < (magN n).size) : (((magN n)[J].toNat : Nat) : Int) = 48 + (d : Int) := by
  have hd := (dg_small n).at h
  have h1 := wrt_at h hj
  rw [← magN_list n h0, List.getElem?_eq_getElem (by rw [Array.length_toList]; exact hJ)] at h1
  have h2 : (magN n)[J] = UInt8.ofNat (48 + d) := Option.some.inj h1
  rw [h2, ofNat_toNat (by omega)]; omega
theorem dec_pos' {z : Int} (h : ¬ z < 0) : dec z = magN z.natAbs := by
  rw [dec, Lib.itoa, if_neg h, magN]
  congr 2; omega
theorem dec_neg' {z : Int} (h : z < 0) : dec z = str (45 :: Lib.decDigits z.natAbs) := by rw [dec, Lib.itoa, if_pos h]
theorem extract_one (b : UInt8) (l : List UInt8) : (str (b :: l)).extract 1 (str (b :: l)).size = str l := by
  apply ByteArray.ext
  rw [ByteArray.data_extract]
  apply Array.toList_inj.1
  rw [Array.toList_extract]
  show List.extract (b :: l) 1 (b :: l).length = l
  simp [List.extract]
theorem head_dec {n : Nat} (h : 0 < (magN n).size) : ¬ (magN n)[0] = 45 := fun e => by
  have h1 := head_not_minus n
  rw [show Lib.decDigits n = (magN n).data.toList from rfl, get_zero (magN n) h, e] at h1
  exact h1 rfl
theorem magN_pos (n : Nat) : 0 < (magN n).size := by
  have := List.length_pos_iff.2 (decDigits_ne n)
  exact this
theorem first_neg (a : ByteArray) (h0 : 0 < a.size) : (((a[0].toNat : Nat) : Int) == 45) = negB a := by
  have h1 : isNeg a.data.toList = (some a[0] == some 45) := by rw [isNeg, get_zero a h0]
  rw [negB, h1]
  by_cases h : a[0] = 45
  · rw [h]; rfl
  · have e1 : (((a[0].toNat : Nat) : Int) == 45) = false := by
      rw [beq_eq_false_iff_ne]
      intro e
      exact h (UInt8.toNat_inj.1 (by show a[0].toNat = 45; omega))
    have e2 : (some a[0] == some (45 : UInt8)) = false := by
      rw [beq_eq_false_iff_ne]
      exact fun e => h (Option.some.inj e)
    rw [e1, e2]
theorem negB_dec (z : Int) : negB (dec z) = decide (z < 0) := isNeg_itoa z
theorem dec_some (z : Int) : 0 < (dec z).size := by
  by_cases h : z < 0
  · rw [dec_neg' h]; exact Nat.succ_pos _
  · rw [dec_pos' h]; exact magN_pos _
theorem valid_some {a : ByteArray} (h : validB a.data.toList = true) : 0 < a.size := by rw [← dec_numB a h]; exact dec_some _
theorem fits_num {a : ByteArray} (h : validB a.data.toList = true) : fits (numB a) = true := num_fits _ h
theorem fits_abs {z : Int} (h : fits z = true) : z.natAbs < 10 ^ 200 := by rw [fits, decide_eq_true_eq] at h; exact h
theorem valid_first {a : ByteArray} (h : validB a.data.toList = true) (h0 : 0 < a.size) : (((a[0].toNat : Nat) : Int) == 45) = decide (numB a < 0) := by
  rw [first_neg a h0, ← negB_dec, dec_numB a h]

set_option maxRecDepth 100000 in
set_option maxHeartbeats 8000000 in
theorem rdigits_zero (w : World) :
    Calls Tryz.prog 69 #[.string ⟨#[48]⟩] w fun e w' => ∃ A L c, e = .returned (.tuple #[.bool false, .slice A L c]) ∧ Dl w' w'.heap.size A L c (dg 0) ∧ Below w.heap.size w w' := by
  go_enter Tryz.func69, Tryz.ntmps69
  go_wp2
  refine wp_loop_rounds 1 ?_
  rw [rounds_succ]
  go_wp2
  go_ret2
  exact ⟨_, _, _, rfl, by rw [dg_zero]; exact dl_nil _ _, Below.refl _ _⟩
end Go.Proofs.YtgpncnnlhhmjaaaGreatDoor
namespace Go.Proofs.YtgpncnnlhhmjaaaGreatDoor
open Go.RowKit

/-- What is tested at the end, of the digits. -/
def endB (M : ByteArray) : Bool := decide (0 < M.size) && (decide (M.size ≤ 200) && ((M.toList == [48]) || (M.data.toList.head? != some 48)))
def tailB (M : ByteArray) : Bool := M.data.toList.all dig && endB M
theorem head48 (M : ByteArray) (h : 0 < M.size) : (M.data.toList.head? != some 48) = !(((M[0].toNat : Nat) : Int) == 48) := by
  rw [get_zero M h]
  by_cases e : M[0] = 48
  · rw [e]; rfl
  · have e1 : (((M[0].toNat : Nat) : Int) == 48) = false := by
      rw [beq_eq_false_iff_ne]
      intro k
      exact e (UInt8.toNat_inj.1 (by show M[0].toNat = 48; omega))
    have e2 : (some M[0] == some (48 : UInt8)) = false := by
      rw [beq_eq_false_iff_ne]
      exact fun k => e (Option.some.inj k)
    rw [e1, bne, e2]
theorem tail_mag (s : ByteArray) : validB s.data.toList = (tailB (magB s) && (!negB s || ((magB s).toList != [48]))) := by
  rw [valid_eq, tailB, endB, canN, ByteArray.toList_eq]
  generalize hd : (magB s).data.toList = d
  have hl : d.length = (magB s).size := by rw [← hd]; exact Array.length_toList
  rw [← hl]
  cases d with
  | nil => rfl
  | cons b r =>
    have h1 : decide (0 < (b :: r).length) = true := decide_eq_true (Nat.succ_pos _)
    have h2 : (b :: r != []) = true := rfl
    rw [h1, h2]
    generalize List.all (b :: r) dig = p1
    generalize ((b :: r) == [48]) = p2
    generalize ((b :: r).head? != some 48) = p3
    generalize decide ((b :: r).length ≤ 200) = p4
    generalize (!negB s || ((b :: r) != [48])) = p5
    cases p1 <;> cases p2 <;> cases p3 <;> cases p4 <;> rfl
theorem mag_pos {s : ByteArray} (h : negB s = false) : magB s = s := by rw [magB, mag, show isNeg s.data.toList = false from h]; rfl
theorem mag_neg {s : ByteArray} (h : negB s = true) : s.extract 1 s.size = magB s := by
  have h2 : isNeg s.data.toList = true := h
  rw [magB, mag, h2, if_pos rfl]
  apply ByteArray.ext
  rw [ByteArray.data_extract]
  apply Array.toList_inj.1
  rw [Array.toList_extract]
  show List.extract s.data.toList 1 s.size = s.data.toList.tail
  rw [show s.size = s.data.toList.length from Array.length_toList.symm]
  show List.take (s.data.toList.length - 1) (List.drop 1 s.data.toList) = _
  rw [List.drop_one]
  exact List.take_of_length_le (by rw [List.length_tail]; exact Nat.le_refl _)

set_option maxRecDepth 100000 in
set_option maxHeartbeats 8000000 in
theorem rvalid_zero (M : ByteArray) (h0 : M.size = 0) (w : World) :
    Calls Tryz.prog 58 #[.string M] w fun e w' => e = .returned (.bool false) ∧ Below w.heap.size w w' := by
  have i0 : ¬ (0 : Int) < (M.size : Int) := by omega
  have hM : (M.size : Int) = 0 := by omega
  go_enter Tryz.func58, Tryz.ntmps58
  go_wp2
  refine wp_loop_rounds 1 ?_
  rw [rounds_succ]
  go_wp2
  go_ret
  exact ⟨rfl, Below.refl _ _⟩

set_option maxRecDepth 100000 in
set_option maxHeartbeats 8000000 in
theorem rvalid_pos (M : ByteArray) (V : Bool) (hM : M.size ≤ 1000) (hV : V = tailB M) (h0 : 0 < M.size) (X : Int) (hX : ((M[0].toNat : Nat) : Int) = X) (hX2 : (X == 45) = false) (w : World) :
    Calls Tryz.prog 58 #[.string M] w fun e w' => e = .returned (.bool V) ∧ Below w.heap.size w w' := by
  have hlen : M.data.toList.length = M.size := Array.length_toList
  have hvb : ∀ (j : Nat) (d : UInt8), M.data.toList[j]? = some d → dig d = false → V = false := fun j d hd h => by
    rw [hV, tailB]
    have : M.data.toList.all dig = false := by rw [List.all_eq_false]; exact ⟨d, List.mem_of_getElem? hd, by rw [h]; simp⟩
    rw [this]; rfl
  have hve : M.data.toList.all dig = true → V = endB M := fun h => by rw [hV, tailB, h]; rfl
  have HL := Lib.hid hlen; have HVB := Lib.hid hvb; have HVE := Lib.hid hve
  clear hlen hvb hve hV
  have i0s : (0 : Int) < (M.size : Int) := by omega
  go_enter Tryz.func58, Tryz.ntmps58
  go_wp2
  clear hX hX2 i0s h0
  go_loop [3] (fun p => ∃ j : Nat, p = .int .i64 j ∧ j ≤ M.size ∧ Hid ((M.data.toList.take j).all dig = true)) (fun p => M.size - (intOf p).toNat)
  case atStart => exact ⟨0, rfl, by omega, Lib.hid (by rw [List.take_zero]; rfl)⟩
  case round =>
    obtain ⟨j, rfl, hj, HA⟩ := hrel
    by_cases hlt : j < M.size
    · obtain ⟨d, hd⟩ : ∃ d, M.data.toList[j]? = some d := ⟨_, List.getElem?_eq_getElem (by rw [HL.out]; exact hlt)⟩
      have hde : M[j] = d := by
        have := List.getElem?_eq_getElem (l := M.data.toList) (i := j) (by rw [HL.out]; exact hlt)
        rw [hd] at this
        exact (Option.some.inj this).symm
      obtain ⟨E, hE⟩ : ∃ E : Int, E = (d.toNat : Int) := ⟨_, rfl⟩
      have hcd : ((M[j].toNat : Nat) : Int) = E := by rw [hE, hde]
      have jl : (j : Int) < (M.size : Int) := by omega
      have j0 : (0 : Int) ≤ (j : Int) := by omega
      have hnext : dig d = true → (M.data.toList.take (j + 1)).all dig = true := fun h => by
        rw [List.take_add_one, hd, List.all_append, HA.out]; simp [h]
      have hbad : dig d = false → V = false := fun h => HVB.out j d hd h
      have HNX := Lib.hid hnext; have HBD := Lib.hid hbad; have HE := Lib.hid hE
      clear hd hnext hbad hE hde
      by_cases e1 : E < 48
      · have hv : V = false := HBD.out (by have := HE.out; rw [dig, decide_eq_false (by omega)]; rfl)
        subst hv
        go_wp2
        go_ret
        exact ⟨rfl, Below.refl _ _⟩
      · by_cases e2 : 57 < E
        · have hv : V = false := HBD.out (by have := HE.out; rw [dig, decide_eq_false (p := d.toNat ≤ 57) (by omega), Bool.and_false])
          subst hv
          go_wp2
          go_ret
          exact ⟨rfl, Below.refl _ _⟩
        · have hnx := HNX.out (by have := HE.out; rw [dig, decide_eq_true (show 48 ≤ d.toNat by omega), decide_eq_true (show d.toNat ≤ 57 by omega)]; rfl)
          have HN2 := Lib.hid hnx
          clear hnx
          go_wp2
          go_round
          case rel => exact ⟨j + 1, by go_num, by omega, HN2⟩
          case measure => simp [intOf]; omega
    · obtain rfl : j = M.size := by omega
      have hall : M.data.toList.all dig = true := by
        have := HA.out
        rw [List.take_of_length_le (by rw [HL.out]; exact Nat.le_refl _)] at this
        exact this
      have hv := HVE.out hall
      clear HVB HVE hall HA
      by_cases z0 : M.size = 0
      · have hv2 : V = false := by rw [hv, endB, decide_eq_false (by omega)]; rfl
        have i0 : ¬ (0 : Int) < (M.size : Int) := by omega
        clear hv
        subst hv2
        go_wp2
        go_ret
        exact ⟨rfl, Below.refl _ _⟩
      · have i0 : (0 : Int) < (M.size : Int) := by omega
        have h0 : 0 < M.size := by omega
        by_cases z1 : M.size ≤ 200
        · have i1 : (M.size : Int) ≤ 200 := by omega
          by_cases z2 : (M.toList == [48]) = true
          · have hv2 : V = true := by rw [hv, endB, decide_eq_true h0, decide_eq_true z1, z2]; rfl
            clear hv
            subst hv2
            go_wp2
            go_ret
            exact ⟨rfl, Below.refl _ _⟩
          · have z3 : (M.toList == [48]) = false := by simpa using z2
            obtain ⟨X, hX⟩ : ∃ X : Int, ((M[0].toNat : Nat) : Int) = X := ⟨_, rfl⟩
            have hv2 : V = !(X == 48) := by rw [hv, endB, decide_eq_true h0, decide_eq_true z1, z3, ← hX, head48 M h0]; rfl
            clear hv z2
            cases hx : (X == 48) with
            | true =>
              rw [hx] at hv2
              have hv3 : V = false := hv2
              have hx2 : (X != 48) = false := by rw [bne, hx]; rfl
              clear hv2
              subst hv3
              go_wp2
              go_ret
              exact ⟨rfl, Below.refl _ _⟩
            | false =>
              rw [hx] at hv2
              have hv3 : V = true := hv2
              have hx2 : (X != 48) = true := by rw [bne, hx]; rfl
              clear hv2
              subst hv3
              go_wp2
              go_ret
              exact ⟨rfl, Below.refl _ _⟩
        · have i1 : ¬ (M.size : Int) ≤ 200 := by omega
          have hv2 : V = false := by rw [hv, endB, decide_eq_true h0, decide_eq_false z1]; rfl
          clear hv
          subst hv2
          go_wp2
          go_ret
          exact ⟨rfl, Below.refl _ _⟩

set_option maxRecDepth 100000 in
set_option maxHeartbeats 8000000 in
theorem rvalid_neg (M : ByteArray) (V : Bool) (hM : M.size ≤ 1000) (hV : V = tailB M) (S : ByteArray) (h0 : 0 < S.size) (hX : ((S[0].toNat : Nat) : Int) = 45) (hex : S.extract 1 S.size = M) (hne : (M.toList == [48]) = false) (w : World) :
    Calls Tryz.prog 58 #[.string S] w fun e w' => e = .returned (.bool V) ∧ Below w.heap.size w w' := by
  have hlen : M.data.toList.length = M.size := Array.length_toList
  have hvb : ∀ (j : Nat) (d : UInt8), M.data.toList[j]? = some d → dig d = false → V = false := fun j d hd h => by
    rw [hV, tailB]
    have : M.data.toList.all dig = false := by rw [List.all_eq_false]; exact ⟨d, List.mem_of_getElem? hd, by rw [h]; simp⟩
    rw [this]; rfl
  have hve : M.data.toList.all dig = true → V = endB M := fun h => by rw [hV, tailB, h]; rfl
  have HL := Lib.hid hlen; have HVB := Lib.hid hvb; have HVE := Lib.hid hve
  clear hlen hvb hve hV
  have i0s : (0 : Int) < (S.size : Int) := by omega
  have i1s : (1 : Int) ≤ (S.size : Int) := by omega
  go_enter Tryz.func58, Tryz.ntmps58
  go_wp2
  clear hX hex i0s i1s h0
  go_loop [3] (fun p => ∃ j : Nat, p = .int .i64 j ∧ j ≤ M.size ∧ Hid ((M.data.toList.take j).all dig = true)) (fun p => M.size - (intOf p).toNat)
  case atStart => exact ⟨0, rfl, by omega, Lib.hid (by rw [List.take_zero]; rfl)⟩
  case round =>
    obtain ⟨j, rfl, hj, HA⟩ := hrel
    by_cases hlt : j < M.size
    · obtain ⟨d, hd⟩ : ∃ d, M.data.toList[j]? = some d := ⟨_, List.getElem?_eq_getElem (by rw [HL.out]; exact hlt)⟩
      have hde : M[j] = d := by
        have := List.getElem?_eq_getElem (l := M.data.toList) (i := j) (by rw [HL.out]; exact hlt)
        rw [hd] at this
        exact (Option.some.inj this).symm
      obtain ⟨E, hE⟩ : ∃ E : Int, E = (d.toNat : Int) := ⟨_, rfl⟩
      have hcd : ((M[j].toNat : Nat) : Int) = E := by rw [hE, hde]
      have jl : (j : Int) < (M.size : Int) := by omega
      have j0 : (0 : Int) ≤ (j : Int) := by omega
      have hnext : dig d = true → (M.data.toList.take (j + 1)).all dig = true := fun h => by
        rw [List.take_add_one, hd, List.all_append, HA.out]; simp [h]
      have hbad : dig d = false → V = false := fun h => HVB.out j d hd h
      have HNX := Lib.hid hnext; have HBD := Lib.hid hbad; have HE := Lib.hid hE
      clear hd hnext hbad hE hde
      by_cases e1 : E < 48
      · have hv : V = false := HBD.out (by have := HE.out; rw [dig, decide_eq_false (by omega)]; rfl)
        subst hv
        go_wp2
        go_ret
        exact ⟨rfl, Below.refl _ _⟩
      · by_cases e2 : 57 < E
        · have hv : V = false := HBD.out (by have := HE.out; rw [dig, decide_eq_false (p := d.toNat ≤ 57) (by omega), Bool.and_false])
          subst hv
          go_wp2
          go_ret
          exact ⟨rfl, Below.refl _ _⟩
        · have hnx := HNX.out (by have := HE.out; rw [dig, decide_eq_true (show 48 ≤ d.toNat by omega), decide_eq_true (show d.toNat ≤ 57 by omega)]; rfl)
          have HN2 := Lib.hid hnx
          clear hnx
          go_wp2
          go_round
          case rel => exact ⟨j + 1, by go_num, by omega, HN2⟩
          case measure => simp [intOf]; omega
    · obtain rfl : j = M.size := by omega
      have hall : M.data.toList.all dig = true := by
        have := HA.out
        rw [List.take_of_length_le (by rw [HL.out]; exact Nat.le_refl _)] at this
        exact this
      have hv := HVE.out hall
      clear HVB HVE hall HA
      by_cases z0 : M.size = 0
      · have hv2 : V = false := by rw [hv, endB, decide_eq_false (by omega)]; rfl
        have i0 : ¬ (0 : Int) < (M.size : Int) := by omega
        clear hv
        subst hv2
        go_wp2
        go_ret
        exact ⟨rfl, Below.refl _ _⟩
      · have i0 : (0 : Int) < (M.size : Int) := by omega
        have h0 : 0 < M.size := by omega
        by_cases z1 : M.size ≤ 200
        · have i1 : (M.size : Int) ≤ 200 := by omega
          by_cases z2 : (M.toList == [48]) = true
          · rw [hne] at z2; cases z2
          · have z3 : (M.toList == [48]) = false := by simpa using z2
            obtain ⟨X, hX⟩ : ∃ X : Int, ((M[0].toNat : Nat) : Int) = X := ⟨_, rfl⟩
            have hv2 : V = !(X == 48) := by rw [hv, endB, decide_eq_true h0, decide_eq_true z1, z3, ← hX, head48 M h0]; rfl
            clear hv z2
            cases hx : (X == 48) with
            | true =>
              rw [hx] at hv2
              have hv3 : V = false := hv2
              have hx2 : (X != 48) = false := by rw [bne, hx]; rfl
              clear hv2
              subst hv3
              go_wp2
              go_ret
              exact ⟨rfl, Below.refl _ _⟩
            | false =>
              rw [hx] at hv2
              have hv3 : V = true := hv2
              have hx2 : (X != 48) = true := by rw [bne, hx]; rfl
              clear hv2
              subst hv3
              go_wp2
              go_ret
              exact ⟨rfl, Below.refl _ _⟩
        · have i1 : ¬ (M.size : Int) ≤ 200 := by omega
          have hv2 : V = false := by rw [hv, endB, decide_eq_true h0, decide_eq_false z1]; rfl
          clear hv
          subst hv2
          go_wp2
          go_ret
          exact ⟨rfl, Below.refl _ _⟩

set_option maxRecDepth 100000 in
set_option maxHeartbeats 8000000 in
theorem rvalid_one (S M : ByteArray) (h0 : 0 < S.size) (hX : ((S[0].toNat : Nat) : Int) = 45) (hex : S.extract 1 S.size = M) (hne : (M.toList == [48]) = true) (w : World) :
    Calls Tryz.prog 58 #[.string S] w fun e w' => e = .returned (.bool false) ∧ Below w.heap.size w w' := by
  have i0s : (0 : Int) < (S.size : Int) := by omega
  have i1s : (1 : Int) ≤ (S.size : Int) := by omega
  go_enter Tryz.func58, Tryz.ntmps58
  go_wp2
  go_ret
  exact ⟨rfl, Below.refl _ _⟩

theorem rvalid_any (s : ByteArray) (hs : s.size ≤ 1000) (w : World) :
    Calls Tryz.prog 58 #[.string s] w fun e w' => e = .returned (.bool (validB s.data.toList)) ∧ Below w.heap.size w w' := by
  have ht := tail_mag s
  rcases Nat.eq_zero_or_pos s.size with h0 | h0
  · have : validB s.data.toList = false := by rw [empty_of s h0]; decide
    rw [this]
    exact rvalid_zero s h0 w
  · have hf := first_neg s h0
    cases hn : negB s with
    | false =>
      rw [hn] at ht hf
      rw [mag_pos hn, Bool.not_false, Bool.true_or, Bool.and_true] at ht
      exact rvalid_pos s _ hs ht h0 _ rfl hf w
    | true =>
      rw [hn] at ht hf
      have hX : ((s[0].toNat : Nat) : Int) = 45 := by simpa using hf
      have hms : (magB s).size ≤ 1000 := by rw [← mag_neg hn, ByteArray.size_extract]; omega
      rw [Bool.not_true, Bool.false_or] at ht
      cases hz : ((magB s).toList == [48]) with
      | true =>
        rw [bne, hz, Bool.not_true, Bool.and_false] at ht
        rw [ht]
        exact rvalid_one s _ h0 hX (mag_neg hn) hz w
      | false =>
        rw [bne, hz, Bool.not_false, Bool.and_true] at ht
        exact rvalid_neg _ _ hms ht s h0 hX (mag_neg hn) hz w
end Go.Proofs.YtgpncnnlhhmjaaaGreatDoor
namespace Go.Proofs.YtgpncnnlhhmjaaaGreatDoor
open Go.RowKit

set_option maxRecDepth 100000 in
set_option maxHeartbeats 8000000 in
theorem rdigits_pos (n K : Nat) (hn : 0 < n) (f : n < 10 ^ 200) (T : ByteArray) (hTK : T.size = K) (hK : (dg n).length = K) (hne : (T.toList == [48]) = false) (hat : ∀ (m d J : Nat) (hJ : J < T.size), (dg n)[m]? = some d → J + 1 + m = K → ((T[J].toNat : Nat) : Int) = 48 + (d : Int)) (X : Int) (h0 : 0 < T.size) (hX : ((T[0].toNat : Nat) : Int) = X) (hX2 : (X == 45) = false) (w : World) :
    Calls Tryz.prog 69 #[.string T] w fun e w' => ∃ A L c, e = .returned (.tuple #[.bool false, .slice A L c]) ∧ Dl w' w'.heap.size A L c (dg n) ∧ Below w.heap.size w w' := by
  obtain ⟨i0, hi, hz0, hz1, hz2⟩ := info_parts int_info
  have hKs : K ≤ 200 := by rw [← hK]; exact dg_len_lt f
  obtain ⟨Z0, hZ0, z5, z6, z7⟩ := less_facts T.size (by omega)
  have HZ0 : Hid (Z0 = (K : Int) - 1) := Lib.hid (by rw [hZ0, hTK])
  have hne2 : (T.toList != [48]) = true := by rw [bne, hne]; rfl
  have HK := Lib.hid hK; have HTK := Lib.hid hTK; have HAT := Lib.hid hat; have HN := Lib.hid hn
  clear hZ0 hK hTK hat f hn
  go_enter Tryz.func69, Tryz.ntmps69
  go_wp2
  clear z5 z6 hX hX2
  go_loopw [5, 6] (fun v p wr => ∃ (k m : Nat) (z : Int) (l : List Nat), p = .int .i64 z ∧ z + 1 = (k : Int) ∧ k ≤ K ∧ m + k = K ∧ m = l.length ∧ Hid (l = (dg n).take m) ∧ wr.ownsRow w.heap.size 3 1 v m (iV (zs l)) ∧ Below w.heap.size w wr) (fun _ p _ => (intOf p + 1).toNat)
  case atStart => exact ⟨K, 0, _, [], rfl, by rw [z7, HZ0.out]; omega, Nat.le_refl _, by omega, rfl, Lib.hid (by rw [List.take_zero]), World.ownsRow_nil _ _ _ _, Below.refl _ _⟩
  case round =>
    clear z7
    obtain ⟨k, m, z, l, rfl, hz, hk, hm, hl, HL, hrow, hbr⟩ := hrel
    by_cases hk0 : k = 0
    · subst hk0
      obtain rfl : z = -1 := by omega
      obtain ⟨A, c, rfl, hD⟩ := own_dl l hl hrow
      have hfull : l = dg n := by rw [HL.out, show m = K by omega]; exact List.take_of_length_le (by rw [HK.out]; exact Nat.le_refl _)
      rw [hfull] at hD
      have HD := Lib.hid hD; have HBR := Lib.hid hbr
      clear hrow hD hbr hfull hl HL hz
      go_wp2
      go_ret2
      exact ⟨A, m, c, rfl, HD.out, HBR.out⟩
    · obtain ⟨J, rfl⟩ : ∃ J, k = J + 1 := ⟨k - 1, by omega⟩
      obtain rfl : z = (J : Int) := by omega
      have hKK := HK.out
      have hTK := HTK.out
      have hJ : J < T.size := by omega
      obtain ⟨d, hd⟩ : ∃ d, (dg n)[m]? = some d := ⟨_, List.getElem?_eq_getElem (by omega)⟩
      have hd9 := (dg_small n).at hd
      have hY0 := HAT.out m d J hJ hd (by omega)
      obtain ⟨Y, hY⟩ : ∃ Y : Int, ((T[J].toNat : Nat) : Int) = Y := ⟨_, rfl⟩
      rw [hY] at hY0
      obtain ⟨D, hD⟩ : ∃ D : Int, D = (d : Int) := ⟨_, rfl⟩
      have j0 : (0 : Int) ≤ (J : Int) := by omega
      have j1 : (J : Int) < (T.size : Int) := by omega
      have a1 : IntKind.u8.wrap (Y - 48) = D := by rw [show Y - 48 = D by omega]; exact u8_in _ (by omega) (by omega)
      have a2 : IntKind.i64.wrap D = D := i64_in _ (by omega) (by omega)
      have a3 : wrap64 D = D := w64_in _ (by omega) (by omega)
      obtain ⟨Z, hZ, a5, a6, a7⟩ := less_facts J (by omega)
      have mx1 : m + 1 ≤ maxLen := by unfold maxLen; omega
      have mx2 : (m + 1) * 8 ≤ 140737488355328 := by omega
      have hsn : iV (zs (l ++ [d])) = iV (zs l) ++ [.int .i64 D] := by rw [iV_snoc, hD]
      have hl2 : l ++ [d] = (dg n).take (m + 1) := by rw [List.take_add_one, hd, ← HL.out]; rfl
      have HSN := Lib.hid hsn; have HL2 := Lib.hid hl2; have HR := Lib.hid hrow; have HLL := Lib.hid hl; have HZ := Lib.hid hZ
      have ka := keep_alloc hbr (.cells #[.int .i64 D] 3)
      clear hsn hl2 hrow hl hZ hD hd hd9 hY0 hbr hKK hTK hz hk hk0
      go_wp2_with (at_builtin; refine wpList_append_own _ rfl _ _ 40 rfl w.heap.size 3 i0 (.int .i64 0) 1 8 Tryz.underlying40 hi hz0 hz1 hz2 rfl (by decide) _ _ _ rfl (HR.out.alloc _) ⟨wr.heap.size, 0, none⟩ 1 1 [.int .i64 D] rfl rfl (cell_one_new _ _ _) (by simp [Value.oneCell']) mx1 mx2 ka.size ?_; intro v1 w1 hown1 hgrow _)
      clear a1 a2 a3 a5 a6 a7
      go_roundw
      case rel => exact ⟨J, m + 1, Z, l ++ [d], rfl, by rw [HZ.out]; omega, by have := HTK.out; omega, by omega, by rw [List.length_append, ← HLL.out]; rfl, HL2, by rw [HSN.out]; exact hown1, keep_grown ka hgrow (HR.out.alloc _)⟩
      case measure => rw [intOf, intOf, HZ.out]; omega

set_option maxRecDepth 100000 in
set_option maxHeartbeats 8000000 in
theorem rdigits_neg (n K : Nat) (hn : 0 < n) (f : n < 10 ^ 200) (T : ByteArray) (hTK : T.size = K) (hK : (dg n).length = K) (hne : (T.toList == [48]) = false) (hat : ∀ (m d J : Nat) (hJ : J < T.size), (dg n)[m]? = some d → J + 1 + m = K → ((T[J].toNat : Nat) : Int) = 48 + (d : Int)) (S : ByteArray) (h0 : 0 < S.size) (hX : ((S[0].toNat : Nat) : Int) = 45) (hex : S.extract 1 S.size = T) (w : World) :
    Calls Tryz.prog 69 #[.string S] w fun e w' => ∃ A L c, e = .returned (.tuple #[.bool true, .slice A L c]) ∧ Dl w' w'.heap.size A L c (dg n) ∧ Below w.heap.size w w' := by
  obtain ⟨i0, hi, hz0, hz1, hz2⟩ := info_parts int_info
  have hKs : K ≤ 200 := by rw [← hK]; exact dg_len_lt f
  obtain ⟨Z0, hZ0, z5, z6, z7⟩ := less_facts T.size (by omega)
  have HZ0 : Hid (Z0 = (K : Int) - 1) := Lib.hid (by rw [hZ0, hTK])
  have hne2 : (T.toList != [48]) = true := by rw [bne, hne]; rfl
  have HK := Lib.hid hK; have HTK := Lib.hid hTK; have HAT := Lib.hid hat; have HN := Lib.hid hn
  clear hZ0 hK hTK hat f hn
  have h1 : 1 ≤ S.size := h0
  have h1i : (1 : Int) ≤ (S.size : Int) := by omega
  go_enter Tryz.func69, Tryz.ntmps69
  go_wp2
  clear z5 z6 hX hex
  go_loopw [5, 6] (fun v p wr => ∃ (k m : Nat) (z : Int) (l : List Nat), p = .int .i64 z ∧ z + 1 = (k : Int) ∧ k ≤ K ∧ m + k = K ∧ m = l.length ∧ Hid (l = (dg n).take m) ∧ wr.ownsRow w.heap.size 3 1 v m (iV (zs l)) ∧ Below w.heap.size w wr) (fun _ p _ => (intOf p + 1).toNat)
  case atStart => exact ⟨K, 0, _, [], rfl, by rw [z7, HZ0.out]; omega, Nat.le_refl _, by omega, rfl, Lib.hid (by rw [List.take_zero]), World.ownsRow_nil _ _ _ _, Below.refl _ _⟩
  case round =>
    clear z7
    obtain ⟨k, m, z, l, rfl, hz, hk, hm, hl, HL, hrow, hbr⟩ := hrel
    by_cases hk0 : k = 0
    · subst hk0
      obtain rfl : z = -1 := by omega
      obtain ⟨A, c, rfl, hD⟩ := own_dl l hl hrow
      have hfull : l = dg n := by rw [HL.out, show m = K by omega]; exact List.take_of_length_le (by rw [HK.out]; exact Nat.le_refl _)
      rw [hfull] at hD
      have HD := Lib.hid hD; have HBR := Lib.hid hbr
      clear hrow hD hbr hfull hl HL hz
      go_wp2
      go_ret2
      exact ⟨A, m, c, rfl, HD.out, HBR.out⟩
    · obtain ⟨J, rfl⟩ : ∃ J, k = J + 1 := ⟨k - 1, by omega⟩
      obtain rfl : z = (J : Int) := by omega
      have hKK := HK.out
      have hTK := HTK.out
      have hJ : J < T.size := by omega
      obtain ⟨d, hd⟩ : ∃ d, (dg n)[m]? = some d := ⟨_, List.getElem?_eq_getElem (by omega)⟩
      have hd9 := (dg_small n).at hd
      have hY0 := HAT.out m d J hJ hd (by omega)
      obtain ⟨Y, hY⟩ : ∃ Y : Int, ((T[J].toNat : Nat) : Int) = Y := ⟨_, rfl⟩
      rw [hY] at hY0
      obtain ⟨D, hD⟩ : ∃ D : Int, D = (d : Int) := ⟨_, rfl⟩
      have j0 : (0 : Int) ≤ (J : Int) := by omega
      have j1 : (J : Int) < (T.size : Int) := by omega
      have a1 : IntKind.u8.wrap (Y - 48) = D := by rw [show Y - 48 = D by omega]; exact u8_in _ (by omega) (by omega)
      have a2 : IntKind.i64.wrap D = D := i64_in _ (by omega) (by omega)
      have a3 : wrap64 D = D := w64_in _ (by omega) (by omega)
      obtain ⟨Z, hZ, a5, a6, a7⟩ := less_facts J (by omega)
      have mx1 : m + 1 ≤ maxLen := by unfold maxLen; omega
      have mx2 : (m + 1) * 8 ≤ 140737488355328 := by omega
      have hsn : iV (zs (l ++ [d])) = iV (zs l) ++ [.int .i64 D] := by rw [iV_snoc, hD]
      have hl2 : l ++ [d] = (dg n).take (m + 1) := by rw [List.take_add_one, hd, ← HL.out]; rfl
      have HSN := Lib.hid hsn; have HL2 := Lib.hid hl2; have HR := Lib.hid hrow; have HLL := Lib.hid hl; have HZ := Lib.hid hZ
      have ka := keep_alloc hbr (.cells #[.int .i64 D] 3)
      clear hsn hl2 hrow hl hZ hD hd hd9 hY0 hbr hKK hTK hz hk hk0
      go_wp2_with (at_builtin; refine wpList_append_own _ rfl _ _ 40 rfl w.heap.size 3 i0 (.int .i64 0) 1 8 Tryz.underlying40 hi hz0 hz1 hz2 rfl (by decide) _ _ _ rfl (HR.out.alloc _) ⟨wr.heap.size, 0, none⟩ 1 1 [.int .i64 D] rfl rfl (cell_one_new _ _ _) (by simp [Value.oneCell']) mx1 mx2 ka.size ?_; intro v1 w1 hown1 hgrow _)
      clear a1 a2 a3 a5 a6 a7
      go_roundw
      case rel => exact ⟨J, m + 1, Z, l ++ [d], rfl, by rw [HZ.out]; omega, by have := HTK.out; omega, by omega, by rw [List.length_append, ← HLL.out]; rfl, HL2, by rw [HSN.out]; exact hown1, keep_grown ka hgrow (HR.out.alloc _)⟩
      case measure => rw [intOf, intOf, HZ.out]; omega
end Go.Proofs.YtgpncnnlhhmjaaaGreatDoor
namespace Go.Proofs.YtgpncnnlhhmjaaaGreatDoor
open Go.RowKit

theorem rdigits_any (a : ByteArray) (hv : validB a.data.toList = true) (w : World) :
    Calls Tryz.prog 69 #[.string a] w fun e w' => ∃ A L c, e = .returned (.tuple #[.bool (decide (numB a < 0)), .slice A L c]) ∧ Dl w' w'.heap.size A L c (dg (numB a).natAbs) ∧ Below w.heap.size w w' := by
  have hf := fits_abs (fits_num hv)
  have e := dec_numB a hv
  generalize numB a = z at e hf ⊢
  rw [← e]
  clear e hv
  by_cases h : z < 0
  · rw [decide_eq_true h, dec_neg' h]
    have hn : 0 < z.natAbs := by omega
    exact rdigits_neg z.natAbs _ hn hf (magN z.natAbs) rfl (magN_size _ hn).symm (ne_zero (magN_ne _ hn)) (fun m d J hJ hd hj => magN_at hn hd (hj.trans (magN_size _ hn)) hJ) (str (45 :: Lib.decDigits z.natAbs)) (show 0 < (Lib.decDigits z.natAbs).length + 1 from Nat.succ_pos _) rfl (extract_one _ _) w
  · rw [decide_eq_false h, dec_pos' h]
    by_cases h0 : z = 0
    · subst h0
      rw [show (0 : Int).natAbs = 0 from rfl, magN_zero]
      exact rdigits_zero w
    · have hn : 0 < z.natAbs := by omega
      exact rdigits_pos z.natAbs _ hn hf (magN z.natAbs) rfl (magN_size _ hn).symm (ne_zero (magN_ne _ hn)) (fun m d J hJ hd hj => magN_at hn hd (hj.trans (magN_size _ hn)) hJ) _ (magN_pos _) rfl (by
        rw [beq_eq_false_iff_ne]
        intro e
        have hp := magN_pos z.natAbs
        exact head_dec hp (UInt8.toNat_inj.1 (by show ((magN z.natAbs)[0]'hp).toNat = 45; omega))) w
end Go.Proofs.YtgpncnnlhhmjaaaGreatDoor
