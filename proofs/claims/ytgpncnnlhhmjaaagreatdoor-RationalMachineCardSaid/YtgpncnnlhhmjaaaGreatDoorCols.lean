/- columns: a natural's groups in the last of so many columns. -/
import Derived.Test.YtgpncnnlhhmjaaaGreatDoorCar
namespace Go.Proofs.YtgpncnnlhhmjaaaGreatDoor
open Go.RowKit

theorem cols_splice (k n L : Nat) (hL : L = (grp n).length) (hk : L ≤ k) : (splice (iV (List.replicate k 0)) (k - L) (iV (grp n))) = iV (cols k n) := by
  rw [splice, cols, ← hL]
  simp only [iV, List.map_append, List.map_replicate, List.length_map]
  rw [← hL, List.take_replicate, Nat.min_eq_left (by omega), List.drop_of_length_le (by simp; omega), List.append_nil]

theorem add_off (b o j : Nat) : (⟨b, o, none⟩ : Addr).add j = ⟨b, o + j, none⟩ := by unfold Addr.add; split <;> simp_all
theorem ints_src {w : World} {B : Nat} {A : Option Addr} {l : List Int} (h : Ints w B A l) (h0 : 0 < (iV l).length) : ∃ ad, A = some ad ∧ ∀ j v, (iV l)[j]? = some v → w.cell? (ad.add j) = some v := by
  rcases h with h | ⟨b, o, e, _, hc⟩
  · rw [h] at h0; simp [iV] at h0
  · refine ⟨_, e, fun j v hv => ?_⟩
    rw [iV, List.getElem?_map] at hv
    match hj : l[j]?, hv with
    | some x, hv => cases hv; rw [add_off]; exact hc j x hj
theorem int_size : (Tryz.prog.info? 3).map (·.size) = some 1 := by kernel_rfl
set_option maxRecDepth 100000 in
set_option maxHeartbeats 4000000 in
theorem columns_any (A : Option Addr) (L c n k : Nat) (hk : L ≤ k) (hm : k ≤ 1000) (w : World) (hA : Nt w w.heap.size A L c n) :
    Calls Tryz.prog 129 #[.slice A L c, .int .i64 (k : Int)] w fun e w' => e = .returned (.slice (some ⟨w.heap.size, 0, none⟩) k k) ∧ IRow w' w.heap.size (cols k n) ∧ Below w.heap.size w w' := by
  have hmk := make_ints k hm
  have HA := Lib.hid hA
  have HL := Lib.hid hA.len
  have hcap := hA.cap
  have htop := hA.top
  obtain ⟨d, hd⟩ : ∃ d, d = k - L := ⟨_, rfl⟩
  have ed : IntKind.i64.wrap ((k : Int) - (L : Int)) = (d : Int) := by rw [IntWalk.i64_in _ (by omega)]; omega
  have hdk : (d : Int) ≤ (k : Int) := by omega
  have hd0 : (0 : Int) ≤ (d : Int) := by omega
  have hLd : L = k - d := by omega
  have HD := Lib.hid hd
  have HLD := Lib.hid hLd
  clear hd hA hLd
  go_enter Tryz.func129, Tryz.ntmps129
  go_wp2_with (first | (refine wpList_copy_splice rfl (.tmp 13) (.tmp 14) 40 89 rfl 3 Tryz.underlying40 int_size _ _ _ _ _ _ rfl rfl w.heap.size d (iV (List.replicate k 0)) 3 ?_ (iV (grp n)) ?_ ?_ ?_ (iV_one _) w.heap.size w ?_ (Nat.le_refl _) ?_) | fail)
  · exact Row.made w _ _
  · rw [iV_len, ← HL.out]; show L = Nat.min L (k - d); rw [← HLD.out, Nat.min_eq_min, Nat.min_self]
  · intro h0
    refine ⟨?_, ints_src (HA.out.ints.below (below_alloc w _)) h0⟩
    rw [iV_len, ← HL.out] at h0
    have := HD.out
    omega
  · exact fun h0 => ints_src (HA.out.ints.below (below_alloc w _)) h0
  · rw [iV_len, iV_len, List.length_replicate, ← HL.out]; have := HD.out; omega
  · exact below_alloc w _
  · rename_i h
    subst h
    intro w2 h2 hb2
    have hrow : Hid (IRow w2 w.heap.size (cols k n)) := by
      have h3 := h2.out
      have hd := HD.out
      rw [show splice (iV (List.replicate k 0)) k (iV (grp n)) = iV (cols k n) by have h4 := cols_splice k n L HL.out hk; rw [← hd] at h4; exact h4] at h3
      exact h3
    clear h2
    go_wp2
    go_ret
    exact ⟨rfl, hrow.out, hb2⟩
  · intro w2 h2 hb2
    have hrow : Hid (IRow w2 w.heap.size (cols k n)) := by
      have h3 := h2.out
      have hd := HD.out
      rw [show splice (iV (List.replicate k 0)) d (iV (grp n)) = iV (cols k n) by rw [hd]; exact cols_splice k n L HL.out hk] at h3
      exact h3
    clear h2
    go_wp2
    go_ret
    exact ⟨rfl, hrow.out, hb2⟩
end Go.Proofs.YtgpncnnlhhmjaaaGreatDoor
