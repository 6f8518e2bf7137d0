/- strings.CutPrefix of the sign; Valid. -/
import Derived.Test.YtgpncnnlhhmjaaaGreatDoorRdNat
namespace Go.Proofs.YtgpncnnlhhmjaaaGreatDoor
open Go.RowKit

/-- The digits of an integer, as a string. -/
def magB (s : ByteArray) : ByteArray := str (mag s.data.toList)
def negB (s : ByteArray) : Bool := isNeg s.data.toList
theorem cut_neg (l : List UInt8) : Lib.hasPrefix l [45] = isNeg l ∧ Lib.trimPrefix l [45] = mag l := by
  have h : Lib.hasPrefix l [45] = isNeg l := by
    cases l with
    | nil => rfl
    | cons b r =>
      simp only [Lib.hasPrefix, isNeg, List.isPrefixOf, List.head?_cons, Bool.and_true]
      by_cases hb : b = 45
      · subst hb; rfl
      · have h1 : (45 == b) = false := by rw [beq_eq_false_iff_ne]; exact fun e => hb e.symm
        have h2 : (some b == some 45) = false := by rw [beq_eq_false_iff_ne]; intro e; exact hb (Option.some.inj e)
        rw [h1, h2]
  refine ⟨h, ?_⟩
  rw [Lib.trimPrefix, h, mag]
  split
  · cases l <;> rfl
  · rfl
theorem cut_any (s : ByteArray) (w : World) : Calls Tryz.prog 124 #[.string s, .string ⟨#[45]⟩] w fun e w' => e = .returned (.tuple #[.string (magB s), .bool (negB s)]) ∧ w' = w := by
  have h := Tryz.strings_CutPrefix s ⟨#[45]⟩ w
  have hc := cut_neg s.data.toList
  rw [show (⟨#[45]⟩ : ByteArray).data.toList = [45] from rfl, hc.1, hc.2] at h
  exact h
/-- What is tested of the digits. -/
theorem valid_eq (s : ByteArray) : validB s.data.toList = (canN (magB s).data.toList && decide ((magB s).size ≤ 200) && (!negB s || (magB s).data.toList != [48])) := rfl
theorem valid_one (s : ByteArray) (d : List UInt8) (hd : (magB s).data.toList = d) (n : Nat) (hn : (magB s).size = n) (hb : d.head? = some 48) (h2 : n ≤ 200) : validB s.data.toList = (decide (n = 1) && !negB s) := by
  rw [valid_eq, hd, hn]
  have hl : d.length = n := by rw [← hd, ← hn]; exact Array.length_toList
  match d, hb, hl with
  | b :: r, hb, hl =>
    have h48 : b = 48 := by simpa using hb
    subst h48
    have h3 : decide (n ≤ 200) = true := by simpa using h2
    rw [h3]
    by_cases hr : r = []
    · subst hr
      have : n = 1 := by simpa using hl.symm
      subst this
      cases negB s <;> rfl
    · have hne : ¬ n = 1 := fun e => by
        rw [e] at hl
        exact hr (List.eq_nil_of_length_eq_zero (by simpa using hl))
      have h5 : (48 :: r == [48]) = false := by rw [beq_eq_false_iff_ne]; intro e; exact hr (by simpa using e)
      simp [canN, h5, hne]
theorem valid_many (s : ByteArray) (d : List UInt8) (hd : (magB s).data.toList = d) (n : Nat) (hn : (magB s).size = n) (h0 : 0 < n) (hb : d.head? ≠ some 48) (h2 : n ≤ 200) : validB s.data.toList = d.all dig := by
  rw [valid_eq, hd, hn]
  have hl : d.length = n := by rw [← hd, ← hn]; exact Array.length_toList
  have h3 : decide (n ≤ 200) = true := by simpa using h2
  have hne : d ≠ [] := by intro e; rw [e] at hl; simp at hl; omega
  have h48 : (d == [48]) = false := by rw [beq_eq_false_iff_ne]; intro e; rw [e] at hb; exact hb rfl
  have h49 : (d != [48]) = true := by rw [bne, h48]; rfl
  have h50 : (d.head? != some 48) = true := by simpa using hb
  have h51 : (d != []) = true := by simpa using hne
  simp [canN, h3, h48, h49, h50, h51]
theorem valid_zero (s : ByteArray) (n : Nat) (hn : (magB s).size = n) (h : n = 0 ∨ 200 < n) : validB s.data.toList = false := by
  rw [valid_eq, hn]
  rcases h with h | h
  · have hd : (magB s).data.toList = [] := List.eq_nil_of_length_eq_zero (by rw [Array.length_toList]; exact hn.trans h)
    rw [hd]; rfl
  · have h3 : decide (n ≤ 200) = false := by simpa using h
    rw [h3]; simp
theorem get_zero (D : ByteArray) (h : 0 < D.size) : D.data.toList.head? = some D[0] := by
  rw [List.head?_eq_getElem?, List.getElem?_eq_getElem (by rw [Array.length_toList]; exact h)]
  congr 1

set_option maxRecDepth 100000 in
set_option maxHeartbeats 8000000 in
theorem valid_any (s : ByteArray) (w : World) : Calls Tryz.prog 116 #[.string s] w fun e w' => e = .returned (.bool (validB s.data.toList)) ∧ Below w.heap.size w w' := by
  obtain ⟨V, hV⟩ : ∃ V, V = validB s.data.toList := ⟨_, rfl⟩
  obtain ⟨D, hD⟩ : ∃ D, D = magB s := ⟨_, rfl⟩
  obtain ⟨G, hG⟩ : ∃ G, G = negB s := ⟨_, rfl⟩
  have cC := cut_any s w
  rw [← hD, ← hG] at cC
  rw [← hV]
  have HV := Lib.hid hV; have HD := Lib.hid hD; have HG := Lib.hid hG
  clear hV hD hG
  by_cases hz : D.size = 0
  · have hv : V = false := by rw [HV.out]; exact valid_zero s _ rfl (.inl (by rw [← HD.out]; exact hz))
    subst hv
    have h1 : ((D.size : Int) == 0) = true := by rw [beq_iff_eq]; omega
    go_enter Tryz.func116, Tryz.ntmps116
    go_wp2_with (first | (go_at_call 124; (with_reducible refine cC.mono ?_); rintro e w' ⟨rfl, rfl⟩) | fail)
    go_ret
    exact ⟨rfl, Below.refl _ _⟩
  · have h1 : ((D.size : Int) == 0) = false := by rw [beq_eq_false_iff_ne]; omega
    have hpos : 0 < D.size := by omega
    by_cases hbig : 200 < D.size
    · have hv : V = false := by rw [HV.out]; exact valid_zero s _ rfl (.inr (by rw [← HD.out]; exact hbig))
      subst hv
      have h2 : (200 : Int) < (D.size : Int) := by omega
      go_enter Tryz.func116, Tryz.ntmps116
      go_wp2_with (first | (go_at_call 124; (with_reducible refine cC.mono ?_); rintro e w' ⟨rfl, rfl⟩) | fail)
      go_ret
      exact ⟨rfl, Below.refl _ _⟩
    · have h2 : ¬ (200 : Int) < (D.size : Int) := by omega
      have hh := get_zero D hpos
      by_cases h48 : D[0] = 48
      · have hv : V = (decide (D.size = 1) && !G) := by
          rw [HV.out, HG.out]
          exact valid_one s _ rfl _ (by rw [HD.out]) (by rw [← HD.out, hh, h48]) (by omega)
        have h3 : ((D[0].toNat : Int) == 48) = true := by rw [h48]; rfl
        clear hh h48
        by_cases hn1 : D.size = 1
        · have hv2 : V = !G := by rw [hv, hn1]; rfl
          have HVV := Lib.hid hv2
          have h4 : ((D.size : Int) == 1) = true := by rw [beq_iff_eq]; omega
          clear hv hv2
          go_enter Tryz.func116, Tryz.ntmps116
          go_wp2_with (first | (go_at_call 124; (with_reducible refine cC.mono ?_); rintro e w' ⟨rfl, rfl⟩) | fail)
          go_ret
          exact ⟨by rw [HVV.out]; rfl, Below.refl _ _⟩
        · have hv2 : V = false := by rw [hv, decide_eq_false hn1]; rfl
          have HVV := Lib.hid hv2
          have h4 : ((D.size : Int) == 1) = false := by rw [beq_eq_false_iff_ne]; omega
          clear hv hv2
          go_enter Tryz.func116, Tryz.ntmps116
          go_wp2_with (first | (go_at_call 124; (with_reducible refine cC.mono ?_); rintro e w' ⟨rfl, rfl⟩) | fail)
          go_ret
          exact ⟨by rw [HVV.out]; rfl, Below.refl _ _⟩
      · have hv : V = D.data.toList.all dig := by
          rw [HV.out]
          exact valid_many s _ (by rw [HD.out]) _ (by rw [HD.out]) hpos (by rw [hh]; intro e; exact h48 (Option.some.inj e)) (by omega)
        have h3 : ((D[0].toNat : Int) == 48) = false := by
          rw [beq_eq_false_iff_ne]; intro e
          have : D[0].toNat = 48 := by omega
          exact h48 (UInt8.toNat_inj.1 this)
        obtain ⟨v1, w2, hr1, hO, hb2⟩ := run_bytes w D (by omega)
        obtain ⟨g, cap, rfl, hg1, hg2, hg3, hg4, hg5, _, hcell⟩ := hO
        have hlen : D.data.toList.length = D.size := Array.length_toList
        have HVV := Lib.hid hv; have HC := Lib.hid hcell; have HB2 := Lib.hid hb2; have HL := Lib.hid hlen
        clear hv hh h48 hcell hb2 hg3
        go_enter Tryz.func116, Tryz.ntmps116
        go_wp2_with (first | (go_at_call 124; (with_reducible refine cC.mono ?_); rintro e w' ⟨rfl, rfl⟩) | fail)
        clear hr1
        go_loop [6, 33] (fun _ p => ∃ j : Nat, p = .int .i64 j ∧ j ≤ D.size ∧ Hid ((D.data.toList.take j).all dig = true)) (fun _ p => D.size - (intOf p).toNat)
        case atStart => exact ⟨0, rfl, by omega, Lib.hid (by rw [List.take_zero]; rfl)⟩
        case round =>
          obtain ⟨j, rfl, hj, HA⟩ := hrel
          by_cases hlt : j < D.size
          · obtain ⟨d, hd⟩ : ∃ d, D.data.toList[j]? = some d := ⟨_, List.getElem?_eq_getElem (by rw [HL.out]; exact hlt)⟩
            have hcd := HC.out j d hd
            obtain ⟨E, hE⟩ : ∃ E, E = d.toNat := ⟨_, rfl⟩
            rw [← hE] at hcd
            have jl : (j : Int) < (D.size : Int) := by omega
            have hnext : dig d = true → (D.data.toList.take (j + 1)).all dig = true := fun h => by
              rw [List.take_add_one, hd, List.all_append, HA.out]; simp [h]
            have hbad : dig d = false → V = false := fun h => by
              rw [HVV.out, List.all_eq_false]
              exact ⟨d, List.mem_of_getElem? hd, by rw [h]; simp⟩
            have HNX := Lib.hid hnext; have HBD := Lib.hid hbad; have HE := Lib.hid hE
            clear hd hnext hbad hE
            by_cases e1 : E < 48
            · have hv : V = false := HBD.out (by rw [dig, ← HE.out, decide_eq_false (by omega)]; rfl)
              have i1 : (E : Int) < 48 := by omega
              subst hv
              go_wp2
              go_ret
              exact ⟨rfl, HB2.out⟩
            · by_cases e2 : 57 < E
              · have hv : V = false := HBD.out (by rw [dig, ← HE.out, decide_eq_false (p := E ≤ 57) (by omega), Bool.and_false])
                have i1 : ¬ (E : Int) < 48 := by omega
                have i2 : (57 : Int) < (E : Int) := by omega
                subst hv
                go_wp2
                go_ret
                exact ⟨rfl, HB2.out⟩
              · have i1 : ¬ (E : Int) < 48 := by omega
                have i2 : ¬ (57 : Int) < (E : Int) := by omega
                have hnx := HNX.out (by rw [dig, ← HE.out, decide_eq_true (show 48 ≤ E by omega), decide_eq_true (show E ≤ 57 by omega)]; rfl)
                have HN2 := Lib.hid hnx
                clear hnx
                go_wp2
                go_round
                case rel => exact ⟨j + 1, by go_num, by omega, HN2⟩
                case measure => simp [intOf]; omega
          · obtain rfl : j = D.size := by omega
            have hv : V = true := by
              have := HA.out
              rw [List.take_of_length_le (by rw [HL.out]; exact Nat.le_refl _)] at this
              rw [HVV.out]; exact this
            subst hv
            go_wp2
            go_ret
            exact ⟨rfl, HB2.out⟩
end Go.Proofs.YtgpncnnlhhmjaaaGreatDoor
