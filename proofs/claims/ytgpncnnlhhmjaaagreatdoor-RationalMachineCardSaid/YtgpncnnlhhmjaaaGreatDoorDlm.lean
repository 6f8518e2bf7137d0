/- The reference's lists of digits in memory; trim. -/
import Derived.Test.YtgpncnnlhhmjaaaGreatDoorText
import Derived.Test.YtgpncnnlhhmjaaaGreatDoorDgt
import Derived.Handy
namespace Go.Proofs.YtgpncnnlhhmjaaaGreatDoor
open Go.RowKit

/-- Digits as the integers of the cells. -/
def zs (l : List Nat) : List Int := l.map fun (x : Nat) => (x : Int)
theorem zs_len (l : List Nat) : (zs l).length = l.length := by simp [zs]
theorem zs_at {l : List Nat} {i x : Nat} (h : l[i]? = some x) : (zs l)[i]? = some (x : Int) := by rw [zs, List.getElem?_map, h]; rfl
theorem zs_snoc (l : List Nat) (x : Nat) : zs (l ++ [x]) = zs l ++ [(x : Int)] := by simp [zs]
theorem zs_take (l : List Nat) (k : Nat) : zs (l.take k) = (zs l).take k := by simp [zs]
theorem zs_nil {l : List Nat} (h : zs l = []) : l = [] := by
  match l with
  | [] => rfl
  | x :: r => simp [zs] at h
theorem iV_snoc (l : List Nat) (x : Nat) : iV (zs (l ++ [x])) = iV (zs l) ++ [.int .i64 (x : Int)] := by rw [zs_snoc]; simp [iV]
/-- The slice A, L, c reads as these digits. -/
structure Dl (w : World) (B : Nat) (A : Option Addr) (L c : Nat) (l : List Nat) : Prop where
  len : L = l.length
  cap : L ≤ c
  top : c ≤ 9223372036854775807
  ints : Ints w B A (zs l)
section
variable {w w' : World} {B B' : Nat} {A : Option Addr} {L c : Nat} {l : List Nat}
theorem Dl.below (h : Dl w B A L c l) (hb : Below B w w') : Dl w' B A L c l := ⟨h.len, h.cap, h.top, h.ints.below hb⟩
theorem Dl.more (h : Dl w B A L c l) (hB : B ≤ B') : Dl w B' A L c l := ⟨h.len, h.cap, h.top, h.ints.more hB⟩
theorem Dl.kept (h : Dl w w.heap.size A L c l) (hb : Below w.heap.size w w') : Dl w' w'.heap.size A L c l := (h.below hb).more hb.size
theorem Dl.far (h : Dl w B A L c l) (hb : Below w.heap.size w w') (hB : B ≤ w.heap.size) : Dl w' B A L c l := h.below (hb.mono hB)
theorem Dl.at {b o : Nat} (h : Dl w B (some ⟨b, o, none⟩) L c l) {i x : Nat} (hx : l[i]? = some x) : w.cell? ⟨b, o + i, none⟩ = some (.int .i64 (x : Int)) := h.ints.at0 (zs_at hx)
theorem Dl.form (h : Dl w B A L c l) (h0 : 0 < L) : ∃ b o, A = some ⟨b, o, none⟩ ∧ b < B := by
  rcases h.ints with e | ⟨b, o, e, hb, _⟩
  · have := h.len; rw [zs_nil e] at this; simp at this; omega
  · exact ⟨b, o, e, hb⟩
theorem Dl.nth (h : Dl w B A L c l) {i : Nat} (hi : i < L) : ∃ x, l[i]? = some x := ⟨_, List.getElem?_eq_getElem (by rw [← h.len]; exact hi)⟩
theorem Dl.cut (h : Dl w B A L c l) {k : Nat} (hk : k ≤ L) : Dl w B A k c (l.take k) := by
  refine ⟨by rw [List.length_take, ← h.len]; omega, Nat.le_trans hk h.cap, h.top, ?_⟩
  rcases h.ints with e | ⟨b, o, e, hb, hc⟩
  · left; rw [zs_take, e]; simp
  · exact .inr ⟨b, o, e, hb, fun i x hi => hc i x (by rw [zs_take, List.getElem?_take] at hi; split at hi; exact hi; cases hi)⟩
theorem dl_nil (w : World) (B : Nat) : Dl w B none 0 0 [] := ⟨rfl, Nat.le_refl _, by omega, .inl rfl⟩
end
theorem own_dl {w : World} {B n : Nat} {v : Value} (l : List Nat) (hn : n = l.length) (h : w.ownsRow B 3 1 v n (iV (zs l))) :
    ∃ A c, v = .slice A n c ∧ Dl w w.heap.size A n c l := by
  obtain ⟨A, c, h1, h2, h3, h4⟩ := own_ints (zs l) (by rw [zs_len]; exact hn) h
  exact ⟨A, c, h1, hn, h3, h4, h2⟩
theorem w64_in (z : Int) (h0 : -9223372036854775808 ≤ z) (h1 : z ≤ 9223372036854775807) : wrap64 z = z := by rw [wrap64]; omega
theorem u8_in (z : Int) (h0 : 0 ≤ z) (h1 : z ≤ 255) : IntKind.u8.wrap z = z := by rw [IntKind.wrap_u8]; omega
theorem i64_in (z : Int) (h0 : -9223372036854775808 ≤ z) (h1 : z ≤ 9223372036854775807) : IntKind.i64.wrap z = z := IntWalk.i64_in _ ⟨h0, h1⟩
/-- A digit as its byte. -/
theorem byte_facts (x : Nat) (h : x < 10) : ∃ Y : Int, ((48 + x : Nat) : Int) = Y ∧ (48 : Int) + (x : Int) = Y ∧ IntKind.i64.wrap ((48 : Int) + (x : Int)) = Y ∧ IntKind.u8.wrap Y = Y ∧ IntKind.u8.wrap ((48 : Int) + (x : Int)) = Y ∧ wrap64 Y = Y ∧ Y % 256 = Y := by
  obtain ⟨Y, hY⟩ : ∃ Y : Int, ((48 + x : Nat) : Int) = Y := ⟨_, rfl⟩
  have a : (48 : Int) + (x : Int) = Y := by omega
  have y0 : 0 ≤ Y := by omega
  have y1 : Y ≤ 57 := by omega
  refine ⟨Y, hY, a, ?_, u8_in _ y0 (by omega), ?_, w64_in _ (by omega) (by omega), Int.emod_eq_of_lt y0 (by omega)⟩
  · rw [a]; exact i64_in _ (by omega) (by omega)
  · rw [a]; exact u8_in _ y0 (by omega)
/-- The index below. -/
theorem less_facts (J : Nat) (h : J ≤ 100000) : ∃ Z : Int, Z = (J : Int) - 1 ∧ (J : Int) - 1 = Z ∧ IntKind.i64.wrap ((J : Int) - 1) = Z ∧ wrap64 Z = Z :=
  ⟨_, rfl, rfl, i64_in _ (by omega) (by omega), w64_in _ (by omega) (by omega)⟩
theorem wr_below {w : World} : Below w.heap.size w w := Below.refl _ w

set_option maxRecDepth 100000 in
set_option maxHeartbeats 2000000 in
theorem trim_any (A : Option Addr) (L c B : Nat) (l : List Nat) (hs : Small l) (m : L ≤ 2000) (w : World) (h : Dl w B A L c l) :
    Calls Tryz.prog 100 #[.slice A L c] w fun e w' => (∃ L', e = .returned (.slice A L' c) ∧ Dl w B A L' c (dg (valD l))) ∧ w' = w := by
  have H := Lib.hid h; have HS := Lib.hid hs
  have hcap := h.cap
  have htop := h.top
  clear h hs
  go_enter Tryz.func100, Tryz.ntmps100
  go_wp2
  go_loop [0] (fun p => ∃ k : Nat, p = .slice A k c ∧ k ≤ L ∧ Hid (valD (l.take k) = valD l)) (fun p => match p with | .slice _ n _ => n | _ => 0)
  case atStart => exact ⟨L, rfl, Nat.le_refl _, Lib.hid (by rw [List.take_of_length_le (by rw [H.out.len]; exact Nat.le_refl _)])⟩
  case round =>
    obtain ⟨k, rfl, hk, HV⟩ := hrel
    by_cases h0 : k = 0
    · subst h0
      go_wp2
      go_ret
      refine ⟨⟨0, rfl, ?_⟩, rfl⟩
      have := HV.out
      rw [List.take_zero, valD] at this
      rw [← this, dg_zero]
      exact H.out.cut (Nat.zero_le _)
    · obtain ⟨J, rfl⟩ : ∃ J, k = J + 1 := ⟨k - 1, by omega⟩
      obtain ⟨x, hx⟩ := H.out.nth (i := J) (by omega)
      have hx9 := HS.out.at hx
      obtain ⟨b, o, hA, hb⟩ := H.out.form (by omega)
      subst hA
      have hcx := H.out.at hx
      have p0 : (0 : Int) < ((J + 1 : Nat) : Int) := by omega
      have e1 : ((J + 1 : Nat) : Int) - 1 = (J : Int) := by omega
      have w1 : IntKind.i64.wrap (((J + 1 : Nat) : Int) - 1) = (J : Int) := by rw [IntWalk.i64_in _ (by omega)]; omega
      have j0 : (0 : Int) ≤ (J : Int) := by omega
      have j1 : (J : Int) < ((J + 1 : Nat) : Int) := by omega
      have j2 : (J : Int) ≤ (c : Int) := by omega
      by_cases hz : x = 0
      · have hv2 : valD (l.take J) = valD l := by rw [← valD_strip (by rw [hx, hz]), HV.out]
        have HV2 := Lib.hid hv2
        subst hz
        have z0 : (((0 : Nat) : Int) == 0) = true := rfl
        clear hv2 hx
        go_wp2
        go_round
        case rel => exact ⟨J, by go_num, by omega, HV2⟩
        case measure => simp
      · have z1 : ((x : Int) == 0) = false := by rw [beq_eq_false_iff_ne]; omega
        have hfin : dg (valD l) = l.take (J + 1) := by
          rw [← HV.out]
          refine dg_of (take_small HS.out _) fun k hk2 => ?_
          rw [List.length_take, ← H.out.len, Nat.min_eq_left hk] at hk2
          obtain rfl : k = J := by omega
          rw [List.getElem?_take, if_pos (by omega), hx]
          simpa using hz
        have HF := Lib.hid hfin
        clear hfin hx
        go_wp2
        go_ret
        exact ⟨⟨J + 1, rfl, by rw [HF.out]; exact H.out.cut (by omega)⟩, rfl⟩
end Go.Proofs.YtgpncnnlhhmjaaaGreatDoor
