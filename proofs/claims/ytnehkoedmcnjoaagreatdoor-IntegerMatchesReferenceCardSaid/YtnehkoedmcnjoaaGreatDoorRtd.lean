/- The reference's trimmed: a copy without zeros in front. -/
import Derived.Test.YtnehkoedmcnjoaaGreatDoorRdv
namespace Go.Proofs.YtnehkoedmcnjoaaGreatDoor
open Go.RowKit

theorem own_noneI (w : World) (B : Nat) (hB : B ≤ w.heap.size) : (w.alloc (.cells #[] 3)).ownsRow B 3 1 (.slice (some ⟨w.heap.size, 0, none⟩) 0 0) 0 (iV []) :=
  ⟨rfl, .inr ⟨w.heap.size, 0, #[], rfl, hB, heap_alloc_new w _, Nat.le_refl _, by unfold maxLen; omega, rfl, rfl⟩⟩

set_option maxRecDepth 100000 in
set_option maxHeartbeats 4000000 in
theorem trimmed_any (A : Option Addr) (L c : Nat) (l : List Nat) (hs : Small l) (m : L ≤ 2000) (w : World) (h : Dl w w.heap.size A L c l) :
    Calls Tryz.prog 48 #[.slice A L c] w fun e w' => ∃ A' L' c', e = .returned (.slice A' L' c') ∧ Dl w' w'.heap.size A' L' c' (dg (valD l)) ∧ Far w.heap.size A' ∧ Below w.heap.size w w' := by
  have hlr := h.len
  have hri := (h.ints.below (below_alloc w (.cells #[] 3))).more (B' := (w.alloc (.cells #[] 3)).heap.size) (by simp)
  have hnone := own_noneI w w.heap.size (Nat.le_refl _)
  have hba : w.heap.size ≤ (w.alloc (.cells #[] 3)).heap.size := by simp
  have hgr : ∀ w2, (w.alloc (.cells #[] 3)).grownBy w2 (Value.slice (some ⟨w.heap.size, 0, none⟩) 0 0).ownBlock → Below w.heap.size w w2 := fun w2 h => keep_grown (below_alloc w _) h hnone
  have hfin : ∀ (v2 : Value) (w2 : World), w2.ownsRow w.heap.size 3 1 v2 (0 + L) (iV ([] ++ zs l)) → ∃ A c, v2 = .slice A L c ∧ Hid (Dl w2 w2.heap.size A L c l ∧ Far w.heap.size A) := fun v2 w2 h => by
    rw [Nat.zero_add, List.nil_append] at h
    obtain ⟨A, c, e, hD, hF⟩ := own_dlf l hlr h
    exact ⟨A, c, e, Lib.hid ⟨hD, hF⟩⟩
  have cT : ∀ (A : Option Addr) (c : Nat) (w2 : World), Dl w2 w2.heap.size A L c l → Calls Tryz.prog 27 #[.slice A L c] w2 fun e w' => (∃ L', e = .returned (.slice A L' c) ∧ Dl w2 w2.heap.size A L' c (dg (valD l))) ∧ w' = w2 := fun A c w2 h => trim_any A L c w2.heap.size l hs m w2 h
  have HRI := Lib.hid hri; have HN := Lib.hid hnone; have HBA := Lib.hid hba; have HGR := Lib.hid hgr; have HFIN := Lib.hid hfin; have CT := Lib.hid cT
  have HLR : Hid (L = (zs l).length) := Lib.hid (by rw [zs_len]; exact hlr)
  clear hri hnone hba hgr hfin cT hlr h hs
  go_enter Tryz.func48, Tryz.ntmps48
  go_wp2_with (first
    | (at_builtin; refine wpList_append_ints rfl _ _ 38 Tryz.underlying38 rfl w.heap.size _ 0 [] rfl HN.out A L c (zs l) rfl HLR.out HRI.out (by omega) HBA.out ?_; intro v2 w2 hown2 hgrow2; have hb2 := HGR.out w2 hgrow2; obtain ⟨A3, c3, rfl, HD3⟩ := HFIN.out v2 w2 hown2; clear hown2 hgrow2)
    | (go_at_call 27; (with_reducible refine (CT.out _ _ _ HD3.out.1).mono ?_); rintro e w' ⟨⟨L3, rfl, hD3⟩, rfl⟩)
    | fail)
  go_ret
  exact ⟨_, _, _, rfl, hD3, HD3.out.2, hb2⟩
end Go.Proofs.YtnehkoedmcnjoaaGreatDoor
