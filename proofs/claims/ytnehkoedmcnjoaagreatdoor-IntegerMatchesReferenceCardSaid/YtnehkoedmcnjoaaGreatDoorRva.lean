/- The reference's Valid. -/
import Derived.Test.YtnehkoedmcnjoaaGreatDoorRdg
namespace Go.Proofs.YtnehkoedmcnjoaaGreatDoor
open Go.RowKit

/-- What is tested at the end, of the digits. -/
def endB (M : ByteArray) : Bool := decide (0 < M.size) && (decide (M.size ≤ 200) && ((M.toList == [48]) || (M.data.toList.head? != some 48)))
def tailB (M : ByteArray) : Bool := M.data.toList.all dig && endB M
theorem head48 (M : ByteArray) (h : 0 < M.size) : (M.data.toList.head? != some 48) = !(((M[0].toNat : Nat) : Int) == 48) := by
  rw [get_zero M h]
  by_cases e : M[0] = 48
  · rw [e]; rfl
  · have e1 : (((M[0].toNat : Nat) : Int) == 48) = false := by
      rw [beq_eq_false_iff_ne]
      intro k
      exact e (UInt8.toNat_inj.1 (by show M[0].toNat = 48; omega))
    have e2 : (some M[0] == some (48 : UInt8)) = false := by
      rw [beq_eq_false_iff_ne]
      exact fun k => e (Option.some.inj k)
    rw [e1, bne, e2]
theorem tail_mag (s : ByteArray) : validB s.data.toList = (tailB (magB s) && (!negB s || ((magB s).toList != [48]))) := by
  rw [valid_eq, tailB, endB, canN, ByteArray.toList_eq]
  generalize hd : (magB s).data.toList = d
  have hl : d.length = (magB s).size := by rw [← hd]; exact Array.length_toList
  rw [← hl]
  cases d with
  | nil => rfl
  | cons b r =>
    have h1 : decide (0 < (b :: r).length) = true := decide_eq_true (Nat.succ_pos _)
    have h2 : (b :: r != []) = true := rfl
    rw [h1, h2]
    generalize List.all (b :: r) dig = p1
    generalize ((b :: r) == [48]) = p2
    generalize ((b :: r).head? != some 48) = p3
    generalize decide ((b :: r).length ≤ 200) = p4
    generalize (!negB s || ((b :: r) != [48])) = p5
    cases p1 <;> cases p2 <;> cases p3 <;> cases p4 <;> rfl
theorem mag_pos {s : ByteArray} (h : negB s = false) : magB s = s := by rw [magB, mag, show isNeg s.data.toList = false from h]; rfl
theorem mag_neg {s : ByteArray} (h : negB s = true) : s.extract 1 s.size = magB s := by
  have h2 : isNeg s.data.toList = true := h
  rw [magB, mag, h2, if_pos rfl]
  apply ByteArray.ext
  rw [ByteArray.data_extract]
  apply Array.toList_inj.1
  rw [Array.toList_extract]
  show List.extract s.data.toList 1 s.size = s.data.toList.tail
  rw [show s.size = s.data.toList.length from Array.length_toList.symm]
  show List.take (s.data.toList.length - 1) (List.drop 1 s.data.toList) = _
  rw [List.drop_one]
  exact List.take_of_length_le (by rw [List.length_tail]; exact Nat.le_refl _)

set_option maxRecDepth 100000 in
set_option maxHeartbeats 8000000 in
theorem rvalid_zero (M : ByteArray) (h0 : M.size = 0) (w : World) :
    Calls Tryz.prog 22 #[.string M] w fun e w' => e = .returned (.bool false) ∧ Below w.heap.size w w' := by
  have i0 : ¬ (0 : Int) < (M.size : Int) := by omega
  have hM : (M.size : Int) = 0 := by omega
  go_enter Tryz.func22, Tryz.ntmps22
  go_wp2
  refine wp_loop_rounds 1 ?_
  rw [rounds_succ]
  go_wp2
  go_ret
  exact ⟨rfl, Below.refl _ _⟩

set_option maxRecDepth 100000 in
set_option maxHeartbeats 8000000 in
theorem rvalid_pos (M : ByteArray) (V : Bool) (hM : M.size ≤ 1000) (hV : V = tailB M) (h0 : 0 < M.size) (X : Int) (hX : ((M[0].toNat : Nat) : Int) = X) (hX2 : (X == 45) = false) (w : World) :
    Calls Tryz.prog 22 #[.string M] w fun e w' => e = .returned (.bool V) ∧ Below w.heap.size w w' := by
  have hlen : M.data.toList.length = M.size := Array.length_toList
  have hvb : ∀ (j : Nat) (d : UInt8), M.data.toList[j]? = some d → dig d = false → V = false := fun j d hd h => by
    rw [hV, tailB]
    have : M.data.toList.all dig = false := by rw [List.all_eq_false]; exact ⟨d, List.mem_of_getElem? hd, by rw [h]; simp⟩
    rw [this]; rfl
  have hve : M.data.toList.all dig = true → V = endB M := fun h => by rw [hV, tailB, h]; rfl
  have HL := Lib.hid hlen; have HVB := Lib.hid hvb; have HVE := Lib.hid hve
  clear hlen hvb hve hV
  have i0s : (0 : Int) < (M.size : Int) := by omega
  go_enter Tryz.func22, Tryz.ntmps22
  go_wp2
  clear hX hX2 i0s h0
  go_loop [3] (fun p => ∃ j : Nat, p = .int .i64 j ∧ j ≤ M.size ∧ Hid ((M.data.toList.take j).all dig = true)) (fun p => M.size - (intOf p).toNat)
  case atStart => exact ⟨0, rfl, by omega, Lib.hid (by rw [List.take_zero]; rfl)⟩
  case round =>
    obtain ⟨j, rfl, hj, HA⟩ := hrel
    by_cases hlt : j < M.size
    · obtain ⟨d, hd⟩ : ∃ d, M.data.toList[j]? = some d := ⟨_, List.getElem?_eq_getElem (by rw [HL.out]; exact hlt)⟩
      have hde : M[j] = d := by
        have := List.getElem?_eq_getElem (l := M.data.toList) (i := j) (by rw [HL.out]; exact hlt)
        rw [hd] at this
        exact (Option.some.inj this).symm
      obtain ⟨E, hE⟩ : ∃ E : Int, E = (d.toNat : Int) := ⟨_, rfl⟩
      have hcd : ((M[j].toNat : Nat) : Int) = E := by rw [hE, hde]
      have jl : (j : Int) < (M.size : Int) := by omega
      have j0 : (0 : Int) ≤ (j : Int) := by omega
      have hnext : dig d = true → (M.data.toList.take (j + 1)).all dig = true := fun h => by
        rw [List.take_add_one, hd, List.all_append, HA.out]; simp [h]
      have hbad : dig d = false → V = false := fun h => HVB.out j d hd h
      have HNX := Lib.hid hnext; have HBD := Lib.hid hbad; have HE := Lib.hid hE
      clear hd hnext hbad hE hde
      by_cases e1 : E < 48
      · have hv : V = false := HBD.out (by have := HE.out; rw [dig, decide_eq_false (by omega)]; rfl)
        subst hv
        go_wp2
        go_ret
        exact ⟨rfl, Below.refl _ _⟩
      · by_cases e2 : 57 < E
        · have hv : V = false := HBD.out (by have := HE.out; rw [dig, decide_eq_false (p := d.toNat ≤ 57) (by omega), Bool.and_false])
          subst hv
          go_wp2
          go_ret
          exact ⟨rfl, Below.refl _ _⟩
        · have hnx := HNX.out (by have := HE.out; rw [dig, decide_eq_true (show 48 ≤ d.toNat by omega), decide_eq_true (show d.toNat ≤ 57 by omega)]; rfl)
          have HN2 := Lib.hid hnx
          clear hnx
          go_wp2
          go_round
          case rel => exact ⟨j + 1, by go_num, by omega, HN2⟩
          case measure => simp [intOf]; omega
    · obtain rfl : j = M.size := by omega
      have hall : M.data.toList.all dig = true := by
        have := HA.out
        rw [List.take_of_length_le (by rw [HL.out]; exact Nat.le_refl _)] at this
        exact this
      have hv := HVE.out hall
      clear HVB HVE hall HA
      by_cases z0 : M.size = 0
      · have hv2 : V = false := by rw [hv, endB, decide_eq_false (by omega)]; rfl
        have i0 : ¬ (0 : Int) < (M.size : Int) := by omega
        clear hv
        subst hv2
        go_wp2
        go_ret
        exact ⟨rfl, Below.refl _ _⟩
      · have i0 : (0 : Int) < (M.size : Int) := by omega
        have h0 : 0 < M.size := by omega
        by_cases z1 : M.size ≤ 200
        · have i1 : (M.size : Int) ≤ 200 := by omega
          by_cases z2 : (M.toList == [48]) = true
          · have hv2 : V = true := by rw [hv, endB, decide_eq_true h0, decide_eq_true z1, z2]; rfl
            clear hv
            subst hv2
            go_wp2
            go_ret
            exact ⟨rfl, Below.refl _ _⟩
          · have z3 : (M.toList == [48]) = false := by simpa using z2
            obtain ⟨X, hX⟩ : ∃ X : Int, ((M[0].toNat : Nat) : Int) = X := ⟨_, rfl⟩
            have hv2 : V = !(X == 48) := by rw [hv, endB, decide_eq_true h0, decide_eq_true z1, z3, ← hX, head48 M h0]; rfl
            clear hv z2
            cases hx : (X == 48) with
            | true =>
              rw [hx] at hv2
              have hv3 : V = false := hv2
              have hx2 : (X != 48) = false := by rw [bne, hx]; rfl
              clear hv2
              subst hv3
              go_wp2
              go_ret
              exact ⟨rfl, Below.refl _ _⟩
            | false =>
              rw [hx] at hv2
              have hv3 : V = true := hv2
              have hx2 : (X != 48) = true := by rw [bne, hx]; rfl
              clear hv2
              subst hv3
              go_wp2
              go_ret
              exact ⟨rfl, Below.refl _ _⟩
        · have i1 : ¬ (M.size : Int) ≤ 200 := by omega
          have hv2 : V = false := by rw [hv, endB, decide_eq_true h0, decide_eq_false z1]; rfl
          clear hv
          subst hv2
          go_wp2
          go_ret
          exact ⟨rfl, Below.refl _ _⟩

set_option maxRecDepth 100000 in
set_option maxHeartbeats 8000000 in
theorem rvalid_neg (M : ByteArray) (V : Bool) (hM : M.size ≤ 1000) (hV : V = tailB M) (S : ByteArray) (h0 : 0 < S.size) (hX : ((S[0].toNat : Nat) : Int) = 45) (hex : S.extract 1 S.size = M) (hne : (M.toList == [48]) = false) (w : World) :
    Calls Tryz.prog 22 #[.string S] w fun e w' => e = .returned (.bool V) ∧ Below w.heap.size w w' := by
  have hlen : M.data.toList.length = M.size := Array.length_toList
  have hvb : ∀ (j : Nat) (d : UInt8), M.data.toList[j]? = some d → dig d = false → V = false := fun j d hd h => by
    rw [hV, tailB]
    have : M.data.toList.all dig = false := by rw [List.all_eq_false]; exact ⟨d, List.mem_of_getElem? hd, by rw [h]; simp⟩
    rw [this]; rfl
  have hve : M.data.toList.all dig = true → V = endB M := fun h => by rw [hV, tailB, h]; rfl
  have HL := Lib.hid hlen; have HVB := Lib.hid hvb; have HVE := Lib.hid hve
  clear hlen hvb hve hV
  have i0s : (0 : Int) < (S.size : Int) := by omega
  have i1s : (1 : Int) ≤ (S.size : Int) := by omega
  go_enter Tryz.func22, Tryz.ntmps22
  go_wp2
  clear hX hex i0s i1s h0
  go_loop [3] (fun p => ∃ j : Nat, p = .int .i64 j ∧ j ≤ M.size ∧ Hid ((M.data.toList.take j).all dig = true)) (fun p => M.size - (intOf p).toNat)
  case atStart => exact ⟨0, rfl, by omega, Lib.hid (by rw [List.take_zero]; rfl)⟩
  case round =>
    obtain ⟨j, rfl, hj, HA⟩ := hrel
    by_cases hlt : j < M.size
    · obtain ⟨d, hd⟩ : ∃ d, M.data.toList[j]? = some d := ⟨_, List.getElem?_eq_getElem (by rw [HL.out]; exact hlt)⟩
      have hde : M[j] = d := by
        have := List.getElem?_eq_getElem (l := M.data.toList) (i := j) (by rw [HL.out]; exact hlt)
        rw [hd] at this
        exact (Option.some.inj this).symm
      obtain ⟨E, hE⟩ : ∃ E : Int, E = (d.toNat : Int) := ⟨_, rfl⟩
      have hcd : ((M[j].toNat : Nat) : Int) = E := by rw [hE, hde]
      have jl : (j : Int) < (M.size : Int) := by omega
      have j0 : (0 : Int) ≤ (j : Int) := by omega
      have hnext : dig d = true → (M.data.toList.take (j + 1)).all dig = true := fun h => by
        rw [List.take_add_one, hd, List.all_append, HA.out]; simp [h]
      have hbad : dig d = false → V = false := fun h => HVB.out j d hd h
      have HNX := Lib.hid hnext; have HBD := Lib.hid hbad; have HE := Lib.hid hE
      clear hd hnext hbad hE hde
      by_cases e1 : E < 48
      · have hv : V = false := HBD.out (by have := HE.out; rw [dig, decide_eq_false (by omega)]; rfl)
        subst hv
        go_wp2
        go_ret
        exact ⟨rfl, Below.refl _ _⟩
      · by_cases e2 : 57 < E
        · have hv : V = false := HBD.out (by have := HE.out; rw [dig, decide_eq_false (p := d.toNat ≤ 57) (by omega), Bool.and_false])
          subst hv
          go_wp2
          go_ret
          exact ⟨rfl, Below.refl _ _⟩
        · have hnx := HNX.out (by have := HE.out; rw [dig, decide_eq_true (show 48 ≤ d.toNat by omega), decide_eq_true (show d.toNat ≤ 57 by omega)]; rfl)
          have HN2 := Lib.hid hnx
          clear hnx
          go_wp2
          go_round
          case rel => exact ⟨j + 1, by go_num, by omega, HN2⟩
          case measure => simp [intOf]; omega
    · obtain rfl : j = M.size := by omega
      have hall : M.data.toList.all dig = true := by
        have := HA.out
        rw [List.take_of_length_le (by rw [HL.out]; exact Nat.le_refl _)] at this
        exact this
      have hv := HVE.out hall
      clear HVB HVE hall HA
      by_cases z0 : M.size = 0
      · have hv2 : V = false := by rw [hv, endB, decide_eq_false (by omega)]; rfl
        have i0 : ¬ (0 : Int) < (M.size : Int) := by omega
        clear hv
        subst hv2
        go_wp2
        go_ret
        exact ⟨rfl, Below.refl _ _⟩
      · have i0 : (0 : Int) < (M.size : Int) := by omega
        have h0 : 0 < M.size := by omega
        by_cases z1 : M.size ≤ 200
        · have i1 : (M.size : Int) ≤ 200 := by omega
          by_cases z2 : (M.toList == [48]) = true
          · rw [hne] at z2; cases z2
          · have z3 : (M.toList == [48]) = false := by simpa using z2
            obtain ⟨X, hX⟩ : ∃ X : Int, ((M[0].toNat : Nat) : Int) = X := ⟨_, rfl⟩
            have hv2 : V = !(X == 48) := by rw [hv, endB, decide_eq_true h0, decide_eq_true z1, z3, ← hX, head48 M h0]; rfl
            clear hv z2
            cases hx : (X == 48) with
            | true =>
              rw [hx] at hv2
              have hv3 : V = false := hv2
              have hx2 : (X != 48) = false := by rw [bne, hx]; rfl
              clear hv2
              subst hv3
              go_wp2
              go_ret
              exact ⟨rfl, Below.refl _ _⟩
            | false =>
              rw [hx] at hv2
              have hv3 : V = true := hv2
              have hx2 : (X != 48) = true := by rw [bne, hx]; rfl
              clear hv2
              subst hv3
              go_wp2
              go_ret
              exact ⟨rfl, Below.refl _ _⟩
        · have i1 : ¬ (M.size : Int) ≤ 200 := by omega
          have hv2 : V = false := by rw [hv, endB, decide_eq_true h0, decide_eq_false z1]; rfl
          clear hv
          subst hv2
          go_wp2
          go_ret
          exact ⟨rfl, Below.refl _ _⟩

set_option maxRecDepth 100000 in
set_option maxHeartbeats 8000000 in
theorem rvalid_one (S M : ByteArray) (h0 : 0 < S.size) (hX : ((S[0].toNat : Nat) : Int) = 45) (hex : S.extract 1 S.size = M) (hne : (M.toList == [48]) = true) (w : World) :
    Calls Tryz.prog 22 #[.string S] w fun e w' => e = .returned (.bool false) ∧ Below w.heap.size w w' := by
  have i0s : (0 : Int) < (S.size : Int) := by omega
  have i1s : (1 : Int) ≤ (S.size : Int) := by omega
  go_enter Tryz.func22, Tryz.ntmps22
  go_wp2
  go_ret
  exact ⟨rfl, Below.refl _ _⟩

theorem rvalid_any (s : ByteArray) (hs : s.size ≤ 1000) (w : World) :
    Calls Tryz.prog 22 #[.string s] w fun e w' => e = .returned (.bool (validB s.data.toList)) ∧ Below w.heap.size w w' := by
  have ht := tail_mag s
  rcases Nat.eq_zero_or_pos s.size with h0 | h0
  · have : validB s.data.toList = false := by rw [empty_of s h0]; decide
    rw [this]
    exact rvalid_zero s h0 w
  · have hf := first_neg s h0
    cases hn : negB s with
    | false =>
      rw [hn] at ht hf
      rw [mag_pos hn, Bool.not_false, Bool.true_or, Bool.and_true] at ht
      exact rvalid_pos s _ hs ht h0 _ rfl hf w
    | true =>
      rw [hn] at ht hf
      have hX : ((s[0].toNat : Nat) : Int) = 45 := by simpa using hf
      have hms : (magB s).size ≤ 1000 := by rw [← mag_neg hn, ByteArray.size_extract]; omega
      rw [Bool.not_true, Bool.false_or] at ht
      cases hz : ((magB s).toList == [48]) with
      | true =>
        rw [bne, hz, Bool.not_true, Bool.and_false] at ht
        rw [ht]
        exact rvalid_one s _ h0 hX (mag_neg hn) hz w
      | false =>
        rw [bne, hz, Bool.not_false, Bool.and_true] at ht
        exact rvalid_neg _ _ hms ht s h0 hX (mag_neg hn) hz w
end Go.Proofs.YtnehkoedmcnjoaaGreatDoor
