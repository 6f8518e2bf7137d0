/- follow: a chain of steps. -/
import Derived.Test.YtgpncnnlhhmjaaaGreatDoorFun
namespace Go.Proofs.YtgpncnnlhhmjaaaGreatDoor
open Go.RowKit

/-- A slice of function values: its steps. -/
def StepsAt (w : World) (g : Nat) (l : List (Value × Stp)) : Prop := g < w.heap.size ∧ (∀ i v F, l[i]? = some (v, F) → w.cell? ⟨g, 0 + i, none⟩ = some v) ∧ ∀ x ∈ l, StepIs w x.1 x.2
theorem StepsAt.below {w W : World} {g : Nat} {l : List (Value × Stp)} (h : StepsAt w g l) (hb : Below w.heap.size w W) : StepsAt W g l :=
  ⟨Nat.lt_of_lt_of_le h.1 hb.size, fun i v F hi => (hb.cell (p := ⟨g, 0 + i, none⟩) h.1).trans (h.2.1 i v F hi), fun x hx => (h.2.2 x hx).below hb⟩

set_option maxRecDepth 100000 in
set_option maxHeartbeats 8000000 in
theorem follow_any (l : List (Value × Stp)) (hl : l.length ≤ 100) (g c : Nat) (n d : ByteArray) (w : World) (h : StepsAt w g l) :
    Calls Tryz.prog 85 #[rv n d, .slice (some ⟨g, 0, none⟩) l.length c] w fun e w' => e = .returned (sv (runF (l.map Prod.snd) n d 0)) ∧ Below w.heap.size w w' := by
  obtain ⟨S, hS⟩ : ∃ S, S = runF (l.map Prod.snd) n d 0 := ⟨_, rfl⟩
  obtain ⟨L, hL⟩ : ∃ L, L = l.length := ⟨_, rfl⟩
  rw [← hS, ← hL]
  rw [← hL] at hl
  have H := Lib.hid h; have HS := Lib.hid hS; have HL := Lib.hid hL
  clear h hS hL
  go_enter Tryz.func85, Tryz.ntmps85
  go_wp2
  go_loopg [6, 11] L (fun kx s6 s11 wr => ∃ (k : Nat) (n' d' : ByteArray) (x : Int), s6 = .int .i64 x ∧ s11 = .int .i64 (k : Int) ∧ k + kx = L ∧ RRow wr w.heap.size n' d' ∧ RAny wr (w.heap.size + 1) ∧ Below w.heap.size w wr ∧ Hid (runF ((l.map Prod.snd).drop k) n' d' x = S))
  case atStart => exact ⟨0, n, d, 0, rfl, rfl, by omega, (Row.made w _ _).later _, ⟨_, _, Row.made_at _ _ _ (by simp)⟩, keep_alloc (below_alloc w _) _, Lib.hid (by rw [HS.out]; rfl)⟩
  case round =>
    obtain ⟨k, n', d', x, rfl, rfl, hk, hr, ha, hbr, I⟩ := hrel
    obtain ⟨j0, j1, f0, f1⟩ := two_cells hr
    obtain ⟨i0, i1, g0, g1⟩ := ha.eqs
    by_cases hlt : k < L
    · obtain ⟨⟨v, F⟩, hv⟩ : ∃ y, l[k]? = some y := ⟨l[k]'(by rw [← HL.out]; exact hlt), by simp⟩
      have hs := H.out.below hbr
      have c0 := hs.2.1 k v F hv
      rw [Nat.zero_add] at c0
      obtain ⟨f, cb, rfl, he, hc⟩ := hs.2.2 _ (List.mem_of_getElem? hv)
      have hd : (l.map Prod.snd).drop k = F :: (l.map Prod.snd).drop (k + 1) := by
        have h1 : (l.map Prod.snd)[k]? = some F := by rw [List.getElem?_map, hv]; rfl
        obtain ⟨h2, h3⟩ := List.getElem?_eq_some_iff.1 h1
        rw [List.drop_eq_getElem_cons h2, h3]
      have hI := I.out
      rw [hd] at hI
      have hcc := hc wr (Below.refl _ _) n' d'
      have HC := Lib.hid hcc; have HI := Lib.hid hI; have HB := Lib.hid hbr; have HR := Lib.hid hr; have HA := Lib.hid ha
      clear hs hc hd hI hv I hcc hbr hr ha
      by_cases hx : x = 0
      · subst hx
        go_wp2_with (first
          | (go_at_fn f; (refine HC.out.mono ?_); rintro e w2 ⟨rfl, hb2⟩; have R1' := Row.below HR.out hb2 HR.out.inside; obtain ⟨n0, d0, R2⟩ := HA.out; have R2' := Row.below R2 hb2 R2.inside; obtain ⟨j0, j1, f0, f1⟩ := two_cells R1'; obtain ⟨i0, i1, g0, g1⟩ := two_cells R2')
          | fail)
        go_roundg (L - (k + 1))
        case measure => omega
        case rel =>
          refine ⟨k + 1, (F n' d').1, (F n' d').2.1, (F n' d').2.2, rfl, by go_num, by omega, rat_put ⟨_, _, R1'⟩ _ _, ⟨_, _, num_far R2' (by omega) _ _⟩, below_put (below_step HB.out hb2) (Nat.le_refl _) _ _, Lib.hid ?_⟩
          have h1 := HI.out
          rw [runF_cons] at h1
          exact h1
      · go_wp2
        go_roundg (L - (k + 1))
        case measure => omega
        case rel =>
          refine ⟨k + 1, n', d', x, rfl, by go_num, by omega, HR.out, HA.out, HB.out, Lib.hid ?_⟩
          have h1 := HI.out
          rw [runF_bad _ _ _ hx] at h1 ⊢
          exact h1
    · have hI := I.out
      rw [List.drop_of_length_le (by rw [List.length_map, ← HL.out]; omega), runF_nil] at hI
      have HB := Lib.hid hbr; have HA := Lib.hid ha
      clear I hr ha hbr
      subst hI
      go_wp2
      (try simp only [Exit.inBlock, Exit.then])
      refine bodyPost_ret (res_rt rfl rfl (rat_put HA.out _ _)) rfl ?_
      exact ⟨rfl, below_put HB.out (Nat.le_succ _) _ _⟩
end Go.Proofs.YtgpncnnlhhmjaaaGreatDoor
