/- sane. -/
import Derived.Test.YtghcffpcblficaaLv
namespace Go.Proofs.Ytghcffpcblficaa
open Go.RowKit Go.Lib

def sD1 : Dk := writeD (newD 4) 0 ⟨#[97, 98]⟩
def sD2 : Dk := writeD sD1 1 ⟨#[120, 121]⟩
def sD3 : Dk := writeD sD2 3 ⟨#[122, 122]⟩
def sD4 : Dk := crashD sD3 [1, 0] 1
def sD5 : Dk := cutD sD4 1
def sD6 : Dk := writeD sD5 3 ⟨#[113]⟩
def sD7 : Dk := syncD sD6
theorem sane_vals : writeE (newD 4) 0 ⟨#[97, 98]⟩ = 0 ∧ writeE sD1 1 ⟨#[120, 121]⟩ = 0 ∧ writeE sD2 3 ⟨#[122, 122]⟩ = 90 ∧ readS sD3 0 4 = ⟨#[97, 120, 121, 0]⟩ ∧ sD3.pend.length = 2 ∧ readE sD3 0 4 = 0 ∧ (newD 4).pend.length = 0 ∧ sD1.pend.length = 1 ∧ sD2.pend.length = 2 ∧ sD5.pend.length = 0 ∧ readS sD4 0 4 = ⟨#[97, 120, 0, 0]⟩ ∧ readE sD4 0 4 = 0 ∧ cutE sD4 1 = 0 ∧ writeE sD5 3 ⟨#[113]⟩ = 0 ∧ readyE sD6 = 91 ∧ sD7.dur.length = 4 := by decide +kernel
set_option maxRecDepth 100000 in
set_option maxHeartbeats 8000000 in
theorem sane_any (w : World) : Calls Try.prog 12 #[] w fun e w' => e = .returned (.bool true) ∧ Below w.heap.size w w' := by
  have NW := Lib.hid (fun W (h : Below w.heap.size w W) => new_ld h 4 (by decide) (by decide))
  have NB := Lib.hid (fun W => new_bad 0 (by decide) W)
  obtain ⟨v1, v2, v3, v4, v5, v6, v7, v8, v9, v10, v11, v12, v13, v14, v15, v16⟩ := sane_vals
  have k0 := Lib.hid v7; have k1 := Lib.hid v8; have k2 := Lib.hid v9; have k3 := Lib.hid v5; have k5 := Lib.hid v10
  go_enter Try.func12, Try.ntmps12
  go_upto_region 2 with (go_at_call 13; (refine (NW.out _ (Below.refl _ _)).mono ?_); rintro e w1 ⟨g, a, b, rfl, l, _⟩; have L0 := Lib.hid l; clear l)
  go_upto_region 5 with (go_at_call 13; (refine (NB.out _).mono ?_); rintro e w2 ⟨rfl, rfl⟩)
  have h1 := L0.out.write (by rw [k0.out]; decide) 0 (by decide) (by decide) ⟨#[97, 98]⟩ (by decide)
  rw [v1] at h1
  have H1 := Lib.hid h1
  clear h1
  go_upto_region 6 with (go_at_call 21; (with_reducible refine (H1.out).mono ?_); rintro e w' ⟨rfl, l, _⟩; have L1 := Lib.hid l; clear l)
  replace L1 : Hid (Ld w _ g a b sD1) := L1
  have h2 := L1.out.write (by rw [k1.out]; decide) 1 (by decide) (by decide) ⟨#[120, 121]⟩ (by decide)
  rw [v2] at h2
  have H2 := Lib.hid h2
  clear h2
  go_upto_region 7 with (go_at_call 21; (with_reducible refine (H2.out).mono ?_); rintro e w' ⟨rfl, l, _⟩; have L2 := Lib.hid l; clear l)
  replace L2 : Hid (Ld w _ g a b sD2) := L2
  have h3 := L2.out.write (by rw [k2.out]; decide) 3 (by decide) (by decide) ⟨#[122, 122]⟩ (by decide)
  rw [v3] at h3
  have H3 := Lib.hid h3
  clear h3
  go_upto_region 8 with (go_at_call 21; (with_reducible refine (H3.out).mono ?_); rintro e w' ⟨rfl, l, _⟩; have L3 := Lib.hid l; clear l)
  replace L3 : Hid (Ld w _ g a b sD3) := L3
  have h4 := L3.out.read 0 4 (by decide) (by decide)
  rw [v4, v6] at h4
  have H4 := Lib.hid h4
  clear h4
  go_upto_region 9 with (go_at_call 14; (with_reducible refine (H4.out).mono ?_); rintro e w' ⟨rfl, rfl⟩)
  have h5 := L3.out.pending
  rw [v5] at h5
  have H5 := Lib.hid h5
  clear h5
  go_upto_region 10 with (go_at_call 17; (with_reducible refine (H5.out).mono ?_); rintro e w' ⟨rfl, rfl⟩)
  rename_i W3
  obtain ⟨W3, hW3⟩ : ∃ W, W = w'.alloc (.cells #[.int .i64 1, .int .i64 0] 3) := ⟨_, rfl⟩
  have l3 : Ld w W3 g a b sD3 := by rw [hW3]; exact L3.out.step (below_alloc _ _)
  have r3 : Row W3 w'.heap.size 3 #[.int .i64 1, .int .i64 0] := by rw [hW3]; exact Row.made _ _ _
  have h6 := l3.crash (by rw [v5]; decide) (some ⟨w'.heap.size, 0, none⟩) 2 [1, 0] (.inr ⟨w'.heap.size, 0, rfl, r3.inside, fun i r hr => by
    rw [Nat.zero_add]
    match i, hr with
    | 0, hr => cases hr; exact r3.at rfl
    | 1, hr => cases hr; exact r3.at rfl⟩) (by decide) 1
  rw [hW3] at h6
  have H6 := Lib.hid h6
  clear h6 l3 r3 hW3
  go_upto_region 11 with (go_at_call 25; go_loud (refine (H6.out).mono ?_); rintro e w5 ⟨rfl, l, _⟩; have L4 := Lib.hid l; clear l)
  replace L4 : Hid (Ld w _ g a b sD4) := L4
  have h7 := L4.out.read 0 4 (by decide) (by decide)
  rw [v11, v12] at h7
  have H7 := Lib.hid h7
  clear h7
  go_upto_region 12 with (go_at_call 14; (with_reducible refine (H7.out).mono ?_); rintro e w6 ⟨rfl, rfl⟩)
  have h8 := L4.out.cut 1 (by decide)
  rw [v13] at h8
  have H8 := Lib.hid h8
  clear h8
  go_upto_region 13 with (go_at_call 24; (with_reducible refine (H8.out).mono ?_); rintro e w7 ⟨rfl, l, _⟩; have L5 := Lib.hid l; clear l)
  replace L5 : Hid (Ld w _ g a b sD5) := L5
  have h9 := L5.out.write (by rw [k5.out]; decide) 3 (by decide) (by decide) ⟨#[113]⟩ (by decide)
  rw [v14] at h9
  have H9 := Lib.hid h9
  clear h9
  go_upto_region 14 with (go_at_call 21; (with_reducible refine (H9.out).mono ?_); rintro e w8 ⟨rfl, l, _⟩; have L6 := Lib.hid l; clear l)
  replace L6 : Hid (Ld w _ g a b sD6) := L6
  have h10 := L6.out.sync
  rw [v15] at h10
  have H10 := Lib.hid h10
  clear h10
  go_upto_region 15 with (go_at_call 23; (with_reducible refine (H10.out).mono ?_); rintro e w9 ⟨rfl, l, _⟩; have L7 := Lib.hid l; clear l)
  replace L7 : Hid (Ld w _ g a b sD7) := L7
  have h11 := L7.out.size
  rw [v16] at h11
  have H11 := Lib.hid h11
  clear h11 v1 v2 v3 v4 v5 v6 v7 v8 v9 v10 v11 v12 v13 v14 v15 v16
  go_wp2_with (go_at_call 16; (with_reducible refine (H11.out).mono ?_); rintro e w10 ⟨rfl, rfl⟩)
  go_ret
  exact ⟨rfl, L7.out.bel⟩
end Go.Proofs.Ytghcffpcblficaa
