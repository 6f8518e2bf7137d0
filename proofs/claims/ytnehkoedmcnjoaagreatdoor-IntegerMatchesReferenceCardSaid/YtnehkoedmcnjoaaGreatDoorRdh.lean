/- The reference's digits, the walk. -/
import Derived.Test.YtnehkoedmcnjoaaGreatDoorRdg
namespace Go.Proofs.YtnehkoedmcnjoaaGreatDoor
open Go.RowKit

set_option maxRecDepth 100000 in
set_option maxHeartbeats 8000000 in
theorem rdigits_pos (n K : Nat) (hn : 0 < n) (f : n < 10 ^ 200) (T : ByteArray) (hTK : T.size = K) (hK : (dg n).length = K) (hne : (T.toList == [48]) = false) (hat : ∀ (m d J : Nat) (hJ : J < T.size), (dg n)[m]? = some d → J + 1 + m = K → ((T[J].toNat : Nat) : Int) = 48 + (d : Int)) (X : Int) (h0 : 0 < T.size) (hX : ((T[0].toNat : Nat) : Int) = X) (hX2 : (X == 45) = false) (w : World) :
    Calls Tryz.prog 30 #[.string T] w fun e w' => ∃ A L c, e = .returned (.tuple #[.bool false, .slice A L c]) ∧ Dl w' w'.heap.size A L c (dg n) ∧ Below w.heap.size w w' := by
  obtain ⟨i0, hi, hz0, hz1, hz2⟩ := info_parts int_info
  have hKs : K ≤ 200 := by rw [← hK]; exact dg_len_lt f
  obtain ⟨Z0, hZ0, z5, z6, z7⟩ := less_facts T.size (by omega)
  have HZ0 : Hid (Z0 = (K : Int) - 1) := Lib.hid (by rw [hZ0, hTK])
  have hne2 : (T.toList != [48]) = true := by rw [bne, hne]; rfl
  have HK := Lib.hid hK; have HTK := Lib.hid hTK; have HAT := Lib.hid hat; have HN := Lib.hid hn
  clear hZ0 hK hTK hat f hn
  go_enter Tryz.func30, Tryz.ntmps30
  go_wp2
  clear z5 z6 hX hX2
  go_loopw [5, 6] (fun v p wr => ∃ (k m : Nat) (z : Int) (l : List Nat), p = .int .i64 z ∧ z + 1 = (k : Int) ∧ k ≤ K ∧ m + k = K ∧ m = l.length ∧ Hid (l = (dg n).take m) ∧ wr.ownsRow w.heap.size 3 1 v m (iV (zs l)) ∧ Below w.heap.size w wr) (fun _ p _ => (intOf p + 1).toNat)
  case atStart => exact ⟨K, 0, _, [], rfl, by rw [z7, HZ0.out]; omega, Nat.le_refl _, by omega, rfl, Lib.hid (by rw [List.take_zero]), World.ownsRow_nil _ _ _ _, Below.refl _ _⟩
  case round =>
    clear z7
    obtain ⟨k, m, z, l, rfl, hz, hk, hm, hl, HL, hrow, hbr⟩ := hrel
    by_cases hk0 : k = 0
    · subst hk0
      obtain rfl : z = -1 := by omega
      obtain ⟨A, c, rfl, hD⟩ := own_dl l hl hrow
      have hfull : l = dg n := by rw [HL.out, show m = K by omega]; exact List.take_of_length_le (by rw [HK.out]; exact Nat.le_refl _)
      rw [hfull] at hD
      have HD := Lib.hid hD; have HBR := Lib.hid hbr
      clear hrow hD hbr hfull hl HL hz
      go_wp2
      go_ret2
      exact ⟨A, m, c, rfl, HD.out, HBR.out⟩
    · obtain ⟨J, rfl⟩ : ∃ J, k = J + 1 := ⟨k - 1, by omega⟩
      obtain rfl : z = (J : Int) := by omega
      have hKK := HK.out
      have hTK := HTK.out
      have hJ : J < T.size := by omega
      obtain ⟨d, hd⟩ : ∃ d, (dg n)[m]? = some d := ⟨_, List.getElem?_eq_getElem (by omega)⟩
      have hd9 := (dg_small n).at hd
      have hY0 := HAT.out m d J hJ hd (by omega)
      obtain ⟨Y, hY⟩ : ∃ Y : Int, ((T[J].toNat : Nat) : Int) = Y := ⟨_, rfl⟩
      rw [hY] at hY0
      obtain ⟨D, hD⟩ : ∃ D : Int, D = (d : Int) := ⟨_, rfl⟩
      have j0 : (0 : Int) ≤ (J : Int) := by omega
      have j1 : (J : Int) < (T.size : Int) := by omega
      have a1 : IntKind.u8.wrap (Y - 48) = D := by rw [show Y - 48 = D by omega]; exact u8_in _ (by omega) (by omega)
      have a2 : IntKind.i64.wrap D = D := i64_in _ (by omega) (by omega)
      have a3 : wrap64 D = D := w64_in _ (by omega) (by omega)
      obtain ⟨Z, hZ, a5, a6, a7⟩ := less_facts J (by omega)
      have mx1 : m + 1 ≤ maxLen := by unfold maxLen; omega
      have mx2 : (m + 1) * 8 ≤ 140737488355328 := by omega
      have hsn : iV (zs (l ++ [d])) = iV (zs l) ++ [.int .i64 D] := by rw [iV_snoc, hD]
      have hl2 : l ++ [d] = (dg n).take (m + 1) := by rw [List.take_add_one, hd, ← HL.out]; rfl
      have HSN := Lib.hid hsn; have HL2 := Lib.hid hl2; have HR := Lib.hid hrow; have HLL := Lib.hid hl; have HZ := Lib.hid hZ
      have ka := keep_alloc hbr (.cells #[.int .i64 D] 3)
      clear hsn hl2 hrow hl hZ hD hd hd9 hY0 hbr hKK hTK hz hk hk0
      go_wp2_with (at_builtin; refine wpList_append_own _ rfl _ _ 38 rfl w.heap.size 3 i0 (.int .i64 0) 1 8 Tryz.underlying38 hi hz0 hz1 hz2 rfl (by decide) _ _ _ rfl (HR.out.alloc _) ⟨wr.heap.size, 0, none⟩ 1 1 [.int .i64 D] rfl rfl (cell_one_new _ _ _) (by simp [Value.oneCell']) mx1 mx2 ka.size ?_; intro v1 w1 hown1 hgrow _)
      clear a1 a2 a3 a5 a6 a7
      go_roundw
      case rel => exact ⟨J, m + 1, Z, l ++ [d], rfl, by rw [HZ.out]; omega, by have := HTK.out; omega, by omega, by rw [List.length_append, ← HLL.out]; rfl, HL2, by rw [HSN.out]; exact hown1, keep_grown ka hgrow (HR.out.alloc _)⟩
      case measure => rw [intOf, intOf, HZ.out]; omega

set_option maxRecDepth 100000 in
set_option maxHeartbeats 8000000 in
theorem rdigits_neg (n K : Nat) (hn : 0 < n) (f : n < 10 ^ 200) (T : ByteArray) (hTK : T.size = K) (hK : (dg n).length = K) (hne : (T.toList == [48]) = false) (hat : ∀ (m d J : Nat) (hJ : J < T.size), (dg n)[m]? = some d → J + 1 + m = K → ((T[J].toNat : Nat) : Int) = 48 + (d : Int)) (S : ByteArray) (h0 : 0 < S.size) (hX : ((S[0].toNat : Nat) : Int) = 45) (hex : S.extract 1 S.size = T) (w : World) :
    Calls Tryz.prog 30 #[.string S] w fun e w' => ∃ A L c, e = .returned (.tuple #[.bool true, .slice A L c]) ∧ Dl w' w'.heap.size A L c (dg n) ∧ Below w.heap.size w w' := by
  obtain ⟨i0, hi, hz0, hz1, hz2⟩ := info_parts int_info
  have hKs : K ≤ 200 := by rw [← hK]; exact dg_len_lt f
  obtain ⟨Z0, hZ0, z5, z6, z7⟩ := less_facts T.size (by omega)
  have HZ0 : Hid (Z0 = (K : Int) - 1) := Lib.hid (by rw [hZ0, hTK])
  have hne2 : (T.toList != [48]) = true := by rw [bne, hne]; rfl
  have HK := Lib.hid hK; have HTK := Lib.hid hTK; have HAT := Lib.hid hat; have HN := Lib.hid hn
  clear hZ0 hK hTK hat f hn
  have h1 : 1 ≤ S.size := h0
  have h1i : (1 : Int) ≤ (S.size : Int) := by omega
  go_enter Tryz.func30, Tryz.ntmps30
  go_wp2
  clear z5 z6 hX hex
  go_loopw [5, 6] (fun v p wr => ∃ (k m : Nat) (z : Int) (l : List Nat), p = .int .i64 z ∧ z + 1 = (k : Int) ∧ k ≤ K ∧ m + k = K ∧ m = l.length ∧ Hid (l = (dg n).take m) ∧ wr.ownsRow w.heap.size 3 1 v m (iV (zs l)) ∧ Below w.heap.size w wr) (fun _ p _ => (intOf p + 1).toNat)
  case atStart => exact ⟨K, 0, _, [], rfl, by rw [z7, HZ0.out]; omega, Nat.le_refl _, by omega, rfl, Lib.hid (by rw [List.take_zero]), World.ownsRow_nil _ _ _ _, Below.refl _ _⟩
  case round =>
    clear z7
    obtain ⟨k, m, z, l, rfl, hz, hk, hm, hl, HL, hrow, hbr⟩ := hrel
    by_cases hk0 : k = 0
    · subst hk0
      obtain rfl : z = -1 := by omega
      obtain ⟨A, c, rfl, hD⟩ := own_dl l hl hrow
      have hfull : l = dg n := by rw [HL.out, show m = K by omega]; exact List.take_of_length_le (by rw [HK.out]; exact Nat.le_refl _)
      rw [hfull] at hD
      have HD := Lib.hid hD; have HBR := Lib.hid hbr
      clear hrow hD hbr hfull hl HL hz
      go_wp2
      go_ret2
      exact ⟨A, m, c, rfl, HD.out, HBR.out⟩
    · obtain ⟨J, rfl⟩ : ∃ J, k = J + 1 := ⟨k - 1, by omega⟩
      obtain rfl : z = (J : Int) := by omega
      have hKK := HK.out
      have hTK := HTK.out
      have hJ : J < T.size := by omega
      obtain ⟨d, hd⟩ : ∃ d, (dg n)[m]? = some d := ⟨_, List.getElem?_eq_getElem (by omega)⟩
      have hd9 := (dg_small n).at hd
      have hY0 := HAT.out m d J hJ hd (by omega)
      obtain ⟨Y, hY⟩ : ∃ Y : Int, ((T[J].toNat : Nat) : Int) = Y := ⟨_, rfl⟩
      rw [hY] at hY0
      obtain ⟨D, hD⟩ : ∃ D : Int, D = (d : Int) := ⟨_, rfl⟩
      have j0 : (0 : Int) ≤ (J : Int) := by omega
      have j1 : (J : Int) < (T.size : Int) := by omega
      have a1 : IntKind.u8.wrap (Y - 48) = D := by rw [show Y - 48 = D by omega]; exact u8_in _ (by omega) (by omega)
      have a2 : IntKind.i64.wrap D = D := i64_in _ (by omega) (by omega)
      have a3 : wrap64 D = D := w64_in _ (by omega) (by omega)
      obtain ⟨Z, hZ, a5, a6, a7⟩ := less_facts J (by omega)
      have mx1 : m + 1 ≤ maxLen := by unfold maxLen; omega
      have mx2 : (m + 1) * 8 ≤ 140737488355328 := by omega
      have hsn : iV (zs (l ++ [d])) = iV (zs l) ++ [.int .i64 D] := by rw [iV_snoc, hD]
      have hl2 : l ++ [d] = (dg n).take (m + 1) := by rw [List.take_add_one, hd, ← HL.out]; rfl
      have HSN := Lib.hid hsn; have HL2 := Lib.hid hl2; have HR := Lib.hid hrow; have HLL := Lib.hid hl; have HZ := Lib.hid hZ
      have ka := keep_alloc hbr (.cells #[.int .i64 D] 3)
      clear hsn hl2 hrow hl hZ hD hd hd9 hY0 hbr hKK hTK hz hk hk0
      go_wp2_with (at_builtin; refine wpList_append_own _ rfl _ _ 38 rfl w.heap.size 3 i0 (.int .i64 0) 1 8 Tryz.underlying38 hi hz0 hz1 hz2 rfl (by decide) _ _ _ rfl (HR.out.alloc _) ⟨wr.heap.size, 0, none⟩ 1 1 [.int .i64 D] rfl rfl (cell_one_new _ _ _) (by simp [Value.oneCell']) mx1 mx2 ka.size ?_; intro v1 w1 hown1 hgrow _)
      clear a1 a2 a3 a5 a6 a7
      go_roundw
      case rel => exact ⟨J, m + 1, Z, l ++ [d], rfl, by rw [HZ.out]; omega, by have := HTK.out; omega, by omega, by rw [List.length_append, ← HLL.out]; rfl, HL2, by rw [HSN.out]; exact hown1, keep_grown ka hgrow (HR.out.alloc _)⟩
      case measure => rw [intOf, intOf, HZ.out]; omega
end Go.Proofs.YtnehkoedmcnjoaaGreatDoor
