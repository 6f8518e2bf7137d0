/- Implied: its walk. -/
import Derived.Test.YtkeimfkaoianmaaCk2
namespace Go.Proofs.Ytkeimfkaoianmaa
open Go.RowKit

theorem ShPost.base {w W : World} {bs : List Bn} {n : Nat} {f t m : Int} {e : Ending} {w' : World} (h : ShPost W bs n f t m e w') (hb : Below w.heap.size w W) : ShPost w bs n f t m e w' := by
  rcases h with ⟨k, g, cap, h1, h2, h3, h4, h5⟩ | ⟨h1, h2, h3⟩
  · exact .inl ⟨k, g, cap, h1, h2, h3, own_less h4 hb.size, below_step hb h5⟩
  · exact .inr ⟨h1, h2, below_step hb h3⟩

set_option maxRecDepth 100000 in
set_option maxHeartbeats 4000000 in
theorem implied_yes (n : Nat) (bs : List Bn) (A : Option Addr) (c : Nat) (f t m : Int) (hf : fineB (n : Int) bs = true) (hx : bndB (n : Int) (f, t, m) = true) (hbl : bs.length ≤ 9223372036854775807) (w : World) (hr : Rds w w.heap.size A bs) :
    Calls Try.prog 33 #[btw n A bs.length c, bnd (f, t, m)] w fun e w' => ShPost w bs n f t m e w' := by
  rw [fineB_nat] at hf
  simp only [Bool.and_eq_true, Bool.not_eq_true'] at hf
  obtain ⟨hv, hb⟩ := hf
  obtain ⟨⟨_, hn⟩, h60, ho⟩ := validB_iff.1 hv
  have hxx := hx
  unfold bndB at hxx
  simp only [Bool.and_eq_true, varB_iff, inB_iff] at hxx
  obtain ⟨⟨xf, xt⟩, xm⟩ := hxx
  have hva := fun (W : World) (h : Below w.heap.size w W) => valid_any n bs A c hbl W (hr.deep h)
  have hib := fun (W : World) => isBound_any n A bs.length c (f, t, m) W
  have hlo := fun (W : World) (h : Below w.heap.size w W) => longest_any n bs A c (by omega) ho h60 W (hr.deep h)
  have hco := fun (s : Nat) (W : World) (h : Tbl W s n (tb bs n)) => contradicts_any s n (tb bs n) (by omega) W h
  have hsh := fun (W : World) (h : Below w.heap.size w W) => shortest_any n bs A c f t m (by omega) ho h60 xf xt xm W (hr.deep h)
  rw [hv] at hva
  rw [hx] at hib
  rw [← badB_neg, hb] at hco
  generalize bs.length = L at *
  unfold btw bnd at *
  dsimp only at hib hsh ⊢
  have two : Row ((w.alloc (.cells #[.int .i64 (n : Int), .slice A L c] 28)).alloc (.cells #[.int .i64 f, .int .i64 t, .int .i64 m] 30)) w.heap.size 28 #[.int .i64 (n : Int), .slice A L c] ∧
      Row ((w.alloc (.cells #[.int .i64 (n : Int), .slice A L c] 28)).alloc (.cells #[.int .i64 f, .int .i64 t, .int .i64 m] 30)) (w.heap.size + 1) 30 #[.int .i64 f, .int .i64 t, .int .i64 m] := ⟨(Row.made _ _ _).later _, Row.made_at _ _ _ (by simp)⟩
  have HVA := Lib.hid hva; have HIB := Lib.hid hib; have HLO := Lib.hid hlo; have HCO := Lib.hid hco; have HSH := Lib.hid hsh; have TWO := Lib.hid two
  clear hva hib hlo hco hsh two hv hb ho h60 hr hx
  go_enter Try.func33, Try.ntmps33
  go_upto_region 3 with (first
    | (go_at_call 22; (with_reducible refine (HVA.out _ (keep_alloc (below_alloc _ _) _)).mono ?_); rintro e w2 ⟨rfl, b2⟩; have R1 := Lib.hid (TWO.out.1.step b2); have R2 := Lib.hid (TWO.out.2.step b2); obtain ⟨k0, k1, _, _⟩ := R1.out.two; obtain ⟨m0, m1, m2, _, _, _⟩ := R2.out.three; have B2 := Lib.hid (below_step (keep_alloc (below_alloc _ _) _) b2); clear b2)
    | (go_at_call 48; (with_reducible refine (HIB.out _).mono ?_); rintro e w3 ⟨rfl, b3⟩; have R3 := Lib.hid (R1.out.step b3); have R4 := Lib.hid (R2.out.step b3); obtain ⟨p0, p1, _, _⟩ := R3.out.two; obtain ⟨q0, q1, q2, _, _, _⟩ := R4.out.three; have B3 := Lib.hid (below_step B2.out b3); clear b3)
    | (go_at_call 39; (with_reducible refine (HLO.out _ B3.out).mono ?_); rintro e w4 ⟨s, rfl, ht, b4⟩; have T4 := Lib.hid ht; have R5 := Lib.hid (R3.out.step b4); have R6 := Lib.hid (R4.out.step b4); obtain ⟨u0, u1, _, _⟩ := R5.out.two; obtain ⟨v0, v1, v2, _, _, _⟩ := R6.out.three; have B4 := Lib.hid (below_step B3.out b4); clear ht b4; unfold tblV)
    | (go_at_call 40; (refine (HCO.out s _ T4.out).mono ?_); rintro e wx ⟨rfl, hwx⟩; have hwx := hwx.symm; subst hwx))
  clear k0 k1 m0 m1 m2 p0 p1 q0 q1 q2
  go_wp2_with (go_at_call 43; (with_reducible refine (HSH.out _ B4.out).mono ?_); rintro e w6 (⟨k, g, cap, h1, h2, rfl, h4, h5⟩ | ⟨h1, rfl, h3⟩))
  · go_ret2
    exact .inl ⟨k, g, cap, h1, h2, rfl, own_less h4 B4.out.size, below_step B4.out h5⟩
  · have H1 := Lib.hid h1
    clear h1
    go_wp2
    go_ret2
    exact .inr ⟨H1.out, rfl, below_step B4.out h3⟩

set_option maxRecDepth 100000 in
set_option maxHeartbeats 4000000 in
theorem implied_no (N : Int) (bs : List Bn) (A : Option Addr) (c : Nat) (f t m : Int) (hf : (fineB N bs && bndB N (f, t, m)) = false) (hbl : bs.length ≤ 9223372036854775807) (w : World) (hr : Rds w w.heap.size A bs) :
    Calls Try.prog 33 #[btw N A bs.length c, bnd (f, t, m)] w fun e w' => e = .returned (.tuple #[.slice none 0 0, .bool false]) ∧ Below w.heap.size w w' := by
  have hva := fun (W : World) (h : Below w.heap.size w W) => valid_any N bs A c hbl W (hr.deep h)
  have hib := fun (W : World) => isBound_any N A bs.length c (f, t, m) W
  have two : Row ((w.alloc (.cells #[.int .i64 N, .slice A bs.length c] 28)).alloc (.cells #[.int .i64 f, .int .i64 t, .int .i64 m] 30)) w.heap.size 28 #[.int .i64 N, .slice A bs.length c] ∧
      Row ((w.alloc (.cells #[.int .i64 N, .slice A bs.length c] 28)).alloc (.cells #[.int .i64 f, .int .i64 t, .int .i64 m] 30)) (w.heap.size + 1) 30 #[.int .i64 f, .int .i64 t, .int .i64 m] := ⟨(Row.made _ _ _).later _, Row.made_at _ _ _ (by simp)⟩
  by_cases hv : validB N bs = true
  · obtain ⟨⟨h0, hn⟩, h60, ho⟩ := validB_iff.1 hv
    obtain ⟨n, rfl⟩ := Int.eq_ofNat_of_zero_le h0
    rw [hv] at hva
    by_cases hx : bndB (n : Int) (f, t, m) = true
    · rw [fineB_nat, hv, hx, Bool.true_and, Bool.and_true] at hf
      have hb : badB n bs = true := by simpa using hf
      have hlo := fun (W : World) (h : Below w.heap.size w W) => longest_any n bs A c (by omega) ho h60 W (hr.deep h)
      have hco := fun (s : Nat) (W : World) (h : Tbl W s n (tb bs n)) => contradicts_any s n (tb bs n) (by omega) W h
      rw [hx] at hib
      rw [← badB_neg, hb] at hco
      generalize bs.length = L at *
      unfold btw bnd at *
      dsimp only at hib ⊢
      have HVA := Lib.hid hva; have HIB := Lib.hid hib; have HLO := Lib.hid hlo; have HCO := Lib.hid hco; have TWO := Lib.hid two
      clear hva hib hlo hco two hv hb ho h60 hr hx hf
      go_enter Try.func33, Try.ntmps33
      go_wp2_with (first
        | (go_at_call 22; (with_reducible refine (HVA.out _ (keep_alloc (below_alloc _ _) _)).mono ?_); rintro e w2 ⟨rfl, b2⟩; have R1 := Lib.hid (TWO.out.1.step b2); have R2 := Lib.hid (TWO.out.2.step b2); obtain ⟨k0, k1, _, _⟩ := R1.out.two; obtain ⟨m0, m1, m2, _, _, _⟩ := R2.out.three; have B2 := Lib.hid (below_step (keep_alloc (below_alloc _ _) _) b2); clear b2)
        | (go_at_call 48; (with_reducible refine (HIB.out _).mono ?_); rintro e w3 ⟨rfl, b3⟩; have R3 := Lib.hid (R1.out.step b3); have R4 := Lib.hid (R2.out.step b3); obtain ⟨p0, p1, _, _⟩ := R3.out.two; obtain ⟨q0, q1, q2, _, _, _⟩ := R4.out.three; have B3 := Lib.hid (below_step B2.out b3); clear b3)
        | (go_at_call 39; (with_reducible refine (HLO.out _ B3.out).mono ?_); rintro e w4 ⟨s, rfl, ht, b4⟩; have T4 := Lib.hid ht; have B4 := Lib.hid (below_step B3.out b4); clear ht b4; unfold tblV)
        | (go_at_call 40; (refine (HCO.out s _ T4.out).mono ?_); rintro e wx ⟨rfl, hwx⟩; have hwx := hwx.symm; subst hwx))
      go_ret2
      exact ⟨rfl, B4.out⟩
    · have hx' : bndB (n : Int) (f, t, m) = false := bnot hx
      rw [hx'] at hib
      generalize bs.length = L at *
      unfold btw bnd at *
      dsimp only at hib ⊢
      have HVA := Lib.hid hva; have HIB := Lib.hid hib; have TWO := Lib.hid two
      clear hva hib two hv ho h60 hr hx hx' hf
      go_enter Try.func33, Try.ntmps33
      go_wp2_with (first
        | (go_at_call 22; (with_reducible refine (HVA.out _ (keep_alloc (below_alloc _ _) _)).mono ?_); rintro e w2 ⟨rfl, b2⟩; have R1 := Lib.hid (TWO.out.1.step b2); have R2 := Lib.hid (TWO.out.2.step b2); obtain ⟨k0, k1, _, _⟩ := R1.out.two; obtain ⟨m0, m1, m2, _, _, _⟩ := R2.out.three; have B2 := Lib.hid (below_step (keep_alloc (below_alloc _ _) _) b2); clear b2)
        | (go_at_call 48; (with_reducible refine (HIB.out _).mono ?_); rintro e w3 ⟨rfl, b3⟩; have B3 := Lib.hid (below_step B2.out b3); clear b3))
      go_ret2
      exact ⟨rfl, B3.out⟩
  · have hv' : validB N bs = false := bnot hv
    rw [hv'] at hva
    generalize bs.length = L at *
    unfold btw bnd at *
    dsimp only
    have HVA := Lib.hid hva
    clear hva hib two hv hv' hr hf
    go_enter Try.func33, Try.ntmps33
    go_wp2_with (go_at_call 22; (with_reducible refine (HVA.out _ (keep_alloc (below_alloc _ _) _)).mono ?_); rintro e w2 ⟨rfl, b2⟩; have B2 := Lib.hid (below_step (keep_alloc (below_alloc _ _) _) b2); clear b2)
    go_ret2
    exact ⟨rfl, B2.out⟩
end Go.Proofs.Ytkeimfkaoianmaa
