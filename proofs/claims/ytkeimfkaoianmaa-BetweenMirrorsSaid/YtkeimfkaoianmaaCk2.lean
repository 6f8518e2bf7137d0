/- CheckCycle, CheckChain, Implied: their walks. -/
import Derived.Test.YtkeimfkaoianmaaChk
namespace Go.Proofs.Ytkeimfkaoianmaa
open Go.RowKit

/-- A call whose bounds lie in their box. -/
structure Bst (w : World) (N : Int) (A : Option Addr) (L c : Nat) (W : World) : Prop where
  b : Row W w.heap.size 28 #[.int .i64 N, .slice A L c]
  below : Below w.heap.size w W
theorem Bst.step {w W X : World} {N : Int} {A : Option Addr} {L c : Nat} (h : Bst w N A L c W) (hb : Below W.heap.size W X) : Bst w N A L c X := ⟨h.b.step hb, below_step h.below hb⟩
theorem Bst.drew {w W : World} {N : Int} {A : Option Addr} {L c : Nat} (h : Bst w N A L c W) : Bst w N A L c W.drew := h.step ((Below.refl _ W).drew)

set_option maxRecDepth 100000 in
set_option maxHeartbeats 4000000 in
theorem checkChain_any (N : Int) (bs : List Bn) (A : Option Addr) (c : Nat) (x : Bn) (l : List Int) (LA : Option Addr) (lc : Nat) (hbl : bs.length ≤ 9223372036854775807) (hl : l.length ≤ 9223372036854775807) (w : World) (hr : Rds w w.heap.size A bs) (hn : Nums w w.heap.size LA l) :
    Calls Try.prog 31 #[btw N A bs.length c, bnd x, .slice LA l.length lc] w fun e w' => e = .returned (.bool (checkChainB N bs x l)) ∧ Below w.heap.size w w' := by
  obtain ⟨f, t, m⟩ := x
  have hva := fun (W : World) (h : Below w.heap.size w W) => valid_any N bs A c hbl W (hr.deep h)
  have hib := fun (W : World) => isBound_any N A bs.length c (f, t, m) W
  have hsh := fun (hv : validB N bs = true) (W : World) (h : Below w.heap.size w W) => shows_any N bs A c (f, t, m) l LA lc (validB_iff.1 hv).2.2 (validB_iff.1 hv).2.1 hl W (hr.deep h) (hn.deep h)
  unfold checkChainB
  generalize bs.length = L at *
  generalize l.length = K at *
  generalize showsB bs (f, t, m) l = R at *
  generalize bndB N (f, t, m) = B at *
  generalize validB N bs = V at *
  unfold btw bnd at *
  dsimp only at hib hsh ⊢
  have two : Row ((w.alloc (.cells #[.int .i64 N, .slice A L c] 28)).alloc (.cells #[.int .i64 f, .int .i64 t, .int .i64 m] 30)) w.heap.size 28 #[.int .i64 N, .slice A L c] ∧
      Row ((w.alloc (.cells #[.int .i64 N, .slice A L c] 28)).alloc (.cells #[.int .i64 f, .int .i64 t, .int .i64 m] 30)) (w.heap.size + 1) 30 #[.int .i64 f, .int .i64 t, .int .i64 m] := ⟨(Row.made _ _ _).later _, Row.made_at _ _ _ (by simp)⟩
  have HVA := Lib.hid hva; have HIB := Lib.hid hib; have TWO := Lib.hid two
  clear hva hib hr hn two
  cases V
  · clear hsh
    go_enter Try.func31, Try.ntmps31
    go_wp2_with (go_at_call 22; (with_reducible refine (HVA.out _ (keep_alloc (below_alloc _ _) _)).mono ?_); rintro e w2 ⟨rfl, b2⟩; have B2 := Lib.hid (below_step (keep_alloc (below_alloc _ _) _) b2); clear b2)
    go_ret
    exact ⟨rfl, B2.out⟩
  · have HSH := Lib.hid (hsh rfl)
    clear hsh
    cases B
    · go_enter Try.func31, Try.ntmps31
      go_wp2_with (first
        | (go_at_call 22; (with_reducible refine (HVA.out _ (keep_alloc (below_alloc _ _) _)).mono ?_); rintro e w2 ⟨rfl, b2⟩; have R1 := Lib.hid (TWO.out.1.step b2); have R2 := Lib.hid (TWO.out.2.step b2); obtain ⟨k0, k1, _, _⟩ := R1.out.two; obtain ⟨m0, m1, m2, _, _, _⟩ := R2.out.three; have B2 := Lib.hid (below_step (keep_alloc (below_alloc _ _) _) b2); clear b2)
        | (go_at_call 48; (with_reducible refine (HIB.out _).mono ?_); rintro e w3 ⟨rfl, b3⟩; have B3 := Lib.hid (below_step B2.out b3); clear b3))
      go_ret
      exact ⟨rfl, B3.out⟩
    · go_enter Try.func31, Try.ntmps31
      go_wp2_with (first
        | (go_at_call 22; (with_reducible refine (HVA.out _ (keep_alloc (below_alloc _ _) _)).mono ?_); rintro e w2 ⟨rfl, b2⟩; have R1 := Lib.hid (TWO.out.1.step b2); have R2 := Lib.hid (TWO.out.2.step b2); obtain ⟨k0, k1, _, _⟩ := R1.out.two; obtain ⟨m0, m1, m2, _, _, _⟩ := R2.out.three; have B2 := Lib.hid (below_step (keep_alloc (below_alloc _ _) _) b2); clear b2)
        | (go_at_call 48; (with_reducible refine (HIB.out _).mono ?_); rintro e w3 ⟨rfl, b3⟩; have R3 := Lib.hid (R1.out.step b3); have R4 := Lib.hid (R2.out.step b3); obtain ⟨p0, p1, _, _⟩ := R3.out.two; obtain ⟨q0, q1, q2, _, _, _⟩ := R4.out.three; have B3 := Lib.hid (below_step B2.out b3); clear b3)
        | (go_at_call 52; (with_reducible refine (HSH.out _ B3.out).mono ?_); rintro e w4 ⟨rfl, b4⟩; have B4 := Lib.hid (below_step B3.out b4); clear b4))
      go_ret
      exact ⟨by simp, B4.out⟩

set_option maxRecDepth 100000 in
set_option maxHeartbeats 4000000 in
theorem checkCycle_any (N : Int) (bs : List Bn) (A : Option Addr) (c : Nat) (l : List Int) (LA : Option Addr) (lc : Nat) (hbl : bs.length ≤ 9223372036854775807) (hl : l.length ≤ 9223372036854775807) (w : World) (hr : Rds w w.heap.size A bs) (hn : Nums w w.heap.size LA l) :
    Calls Try.prog 29 #[btw N A bs.length c, .slice LA l.length lc] w fun e w' => e = .returned (.bool (checkCycleB N bs l)) ∧ Below w.heap.size w w' := by
  have hva := fun (W : World) (h : Below w.heap.size w W) => valid_any N bs A c hbl W (hr.deep h)
  have hsh := fun (hv : validB N bs = true) (u : Int) (W : World) (h : Below w.heap.size w W) => shows_any N bs A c (u, u, -1) l LA lc (validB_iff.1 hv).2.2 (validB_iff.1 hv).2.1 hl W (hr.deep h) (hn.deep h)
  have hv16 := fun (h : validB N bs = true) => (validB_iff.1 h).1
  unfold checkCycleB
  generalize bs.length = L at *
  generalize l.length = K at *
  generalize validB N bs = V at *
  unfold btw bnd at *
  dsimp only at hsh ⊢
  have HVA := Lib.hid hva
  clear hva hr hn
  cases V
  · clear hsh hv16
    go_enter Try.func29, Try.ntmps29
    go_wp2_with (go_at_call 22; (with_reducible refine (HVA.out _ (below_alloc _ _)).mono ?_); rintro e w2 ⟨rfl, b2⟩; have B2 := Lib.hid (below_step (below_alloc _ _) b2); clear b2)
    go_ret
    exact ⟨rfl, B2.out⟩
  · obtain ⟨N0, N16⟩ := hv16 rfl
    obtain ⟨n, rfl⟩ := Int.eq_ofNat_of_zero_le N0
    rw [Int.toNat_natCast, Bool.true_and]
    have HSH := Lib.hid (hsh rfl)
    clear hsh hv16
    obtain ⟨R, hR⟩ : ∃ R, R = (List.range n).any fun u => showsB bs ((u : Int), (u : Int), -1) l := ⟨_, rfl⟩
    rw [← hR]
    have HR := Lib.hid hR
    clear hR
    go_enter Try.func29, Try.ntmps29
    go_wp2_with (go_at_call 22; (with_reducible refine (HVA.out _ (below_alloc _ _)).mono ?_); rintro e w2 ⟨rfl, b2⟩; have r2 : Bst w (n : Int) A L c w2 := ⟨(Row.made w 28 #[.int .i64 (n : Int), .slice A L c]).step b2, below_step (below_alloc _ _) b2⟩; have B2 := Lib.hid r2; obtain ⟨k0, k1, _, _⟩ := r2.b.two; clear b2 r2)
    go_loopg [5, 11] n (fun kx s5 s11 wr => ∃ k : Nat, s11 = .int .i64 (k : Int) ∧ k + kx = n ∧ Bst w (n : Int) A L c wr ∧ Hid (∀ u, u < k → showsB bs ((u : Int), (u : Int), -1) l = false))
    case atStart => exact ⟨0, rfl, by omega, B2.out, Lib.hid (fun u hu => absurd hu (by omega))⟩
    case round =>
      clear k0 k1 B2
      obtain ⟨k, rfl, hk, hB, I⟩ := hrel
      by_cases hlt : k < n
      · have hs := HSH.out (k : Int)
        obtain ⟨q, hq⟩ : ∃ q, q = showsB bs ((k : Int), (k : Int), -1) l := ⟨_, rfl⟩
        rw [← hq] at hs
        have kk : ∀ W, Bst w (n : Int) A L c W → (Hid (Bst w (n : Int) A L c W) ∧ W.cell? ⟨w.heap.size, 0, none⟩ = some (.int .i64 (n : Int)) ∧ W.cell? ⟨w.heap.size, 1, none⟩ = some (.slice A L c)) := fun W h => ⟨Lib.hid h, h.b.two.1, h.b.two.2.1⟩
        obtain ⟨_, e0, e1⟩ := kk wr hB
        have hls := fun W => less_any (k : Int) W
        unfold bnd at hls
        dsimp only at hls
        have HS := Lib.hid hs; have HQ := Lib.hid hq; have KK := Lib.hid kk; have HB := Lib.hid hB; have HLS := Lib.hid hls
        clear hs hq kk hB hls
        cases q
        · go_upto_region 6 with (fail)
          go_region_held3 (fun W => Hid (Bst w (n : Int) A L c W) ∧ W.cell? ⟨w.heap.size, 0, none⟩ = some (.int .i64 (n : Int)) ∧ W.cell? ⟨w.heap.size, 1, none⟩ = some (.slice A L c))
            (first | assumption | exact KK.out _ (HB.out.drew) | exact KK.out _ (Bst.step (Hid.out (And.left (by assumption))) (by assumption)) | fail)
            (first | (go_at_call 44; (with_reducible refine (HLS.out _).mono ?_); rintro e w5 ⟨rfl, b5⟩) | (go_at_call 52; (with_reducible refine (HS.out _ (Bst.below (Hid.out (And.left (by assumption))))).mono ?_); rintro e w6 ⟨rfl, b6⟩) | fail)
          go_wp2
          go_roundg (n - (k + 1))
          case measure => omega
          case rel => exact ⟨k + 1, by go_num, by omega, Hid.out (And.left (by assumption)), Lib.hid (fun u hu => by
            rcases Nat.lt_or_ge u k with h | h
            · exact I.out u h
            · obtain rfl : u = k := by omega
              exact HQ.out.symm)⟩
        · go_upto_region 6 with (fail)
          go_region_held3 (fun W => Hid (Bst w (n : Int) A L c W) ∧ W.cell? ⟨w.heap.size, 0, none⟩ = some (.int .i64 (n : Int)) ∧ W.cell? ⟨w.heap.size, 1, none⟩ = some (.slice A L c))
            (first | assumption | exact KK.out _ (HB.out.drew) | exact KK.out _ (Bst.step (Hid.out (And.left (by assumption))) (by assumption)) | fail)
            (first | (go_at_call 44; (with_reducible refine (HLS.out _).mono ?_); rintro e w5 ⟨rfl, b5⟩) | (go_at_call 52; (with_reducible refine (HS.out _ (Bst.below (Hid.out (And.left (by assumption))))).mono ?_); rintro e w6 ⟨rfl, b6⟩) | fail)
          go_wp2
          go_ret
          have hR2 : R = true := by rw [HR.out]; exact List.any_eq_true.2 ⟨k, List.mem_range.2 hlt, HQ.out.symm⟩
          exact ⟨by rw [hR2]; rfl, Bst.below (Hid.out (And.left (by assumption)))⟩
      · have HB := Lib.hid hB
        clear hB
        have hR2 : R = false := by
          rw [HR.out, List.any_eq_false]
          intro u hu
          have := List.mem_range.1 hu
          rw [I.out u (by omega)]; simp
        have HR2 := Lib.hid hR2
        clear hR2
        go_wp2
        go_ret
        exact ⟨by rw [HR2.out]; rfl, HB.out.below⟩
end Go.Proofs.Ytkeimfkaoianmaa
