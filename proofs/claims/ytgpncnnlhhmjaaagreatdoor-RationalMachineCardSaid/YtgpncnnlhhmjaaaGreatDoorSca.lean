/- Valid, and the step that accepts. The step that accepts: every argument is valid. The steps that scale, include, cut. -/
import Derived.Test.YtgpncnnlhhmjaaaGreatDoorFol
import Derived.Test.YtgpncnnlhhmjaaaGreatDoorBd
namespace Go.Proofs.YtgpncnnlhhmjaaaGreatDoor
open Go.RowKit

theorem ne_one {X : ByteArray} (h : ¬ X = ⟨#[49]⟩) : (X.toList == [49]) = false := by
  have := ne_list h
  simpa [ByteArray.toList_eq] using this
theorem valid_split (n d : ByteArray) : (gcdE n d ≠ 0 ∧ validR n d = false) ∨ (gcdE n d = 0 ∧ gcdT n d ≠ ⟨#[49]⟩ ∧ validR n d = false) ∨ (gcdE n d = 0 ∧ gcdT n d = ⟨#[49]⟩ ∧ validR n d = decide (0 < cmpS d ⟨#[48]⟩)) := by
  cases hb : both n d with
  | false =>
    refine Or.inl ⟨?_, by rw [validR, hb]; rfl⟩
    rw [gcdE, opE_both hb]; decide
  | true =>
    obtain ⟨v1, v2⟩ := both_parts hb
    have f1 := fits_of v1
    have f2 := fits_of v2
    by_cases h0 : numB n = 0 ∧ numB d = 0
    · have hg : (Int.gcd (numB n) (numB d) : Int) = 0 := by rw [h0.1, h0.2]; rfl
      have e1 : gcdE n d = 0 := by rw [gcdE, ← dec_numB n v1, ← dec_numB d v2, opE_dec _ f1 f2, hg, outE_fits (fits_tiny (by decide))]
      have e2 : gcdT n d = dec 0 := by rw [gcdT, ← dec_numB n v1, ← dec_numB d v2, opT_dec _ f1 f2, hg, outT_fits (fits_tiny (by decide))]
      refine Or.inr (Or.inl ⟨e1, ?_, ?_⟩)
      · rw [e2, l1]; intro h; have := dec_inj h; omega
      · rw [validR, hb, h0.2]; simp
    · have fg : fits (Int.gcd (numB n) (numB d) : Int) = true := by
        by_cases hd : numB d = 0
        · refine fits_le f1 ?_
          rw [Int.natAbs_natCast]
          have : numB n ≠ 0 := fun h => h0 ⟨h, hd⟩
          exact Nat.le_of_dvd (by omega) (Int.gcd_dvd_natAbs_left _ _)
        · refine fits_le f2 ?_
          rw [Int.natAbs_natCast]
          exact Nat.le_of_dvd (by omega) (Int.gcd_dvd_natAbs_right _ _)
      have e1 : gcdE n d = 0 := by rw [gcdE, ← dec_numB n v1, ← dec_numB d v2, opE_dec _ f1 f2, outE_fits fg]
      have e2 : gcdT n d = dec (Int.gcd (numB n) (numB d) : Int) := by rw [gcdT, ← dec_numB n v1, ← dec_numB d v2, opT_dec _ f1 f2, outT_fits fg, num_dec, num_dec]
      by_cases hg : Int.gcd (numB n) (numB d) = 1
      · refine Or.inr (Or.inr ⟨e1, by rw [e2, hg, l1]; rfl, ?_⟩)
        have hc : cmpS d ⟨#[48]⟩ = cmpI (numB d) 0 := by
          have e : d = dec (numB d) := (dec_numB d v2).symm
          rw [e, num_dec, l0, cmp_dec f2 (fits_tiny (by decide))]
        rw [validR, hb, hg, hc]
        unfold cmpI
        by_cases h1 : numB d < 0
        · rw [if_pos h1, decide_eq_false (show ¬ 0 < numB d by omega)]; rfl
        · rw [if_neg h1]
          by_cases h2 : 0 < numB d
          · rw [if_pos h2, decide_eq_true h2]; rfl
          · rw [if_neg h2, decide_eq_false h2]; rfl
      · refine Or.inr (Or.inl ⟨e1, ?_, by rw [validR, hb, decide_eq_false hg, Bool.and_false]⟩)
        rw [e2, l1]; intro h; have := dec_inj h; omega

set_option maxRecDepth 100000 in
set_option maxHeartbeats 8000000 in
theorem valid_rat (n d : ByteArray) (w : World) (ht : Tab w) :
    Calls Tryz.prog 29 #[rv n d] w fun e w' => e = .returned (.bool (validR n d)) ∧ Below w.heap.size w w' := by
  have cG := fun W (h : Tab W) => gcd_any n d W h
  have cC := fun W => Compare_any d ⟨#[48]⟩ W
  have hs := valid_split n d
  rw [← gcdT, ← gcdE] at cG
  obtain ⟨V, hV⟩ : ∃ V, V = validR n d := ⟨_, rfl⟩
  obtain ⟨G, hG⟩ : ∃ G, G = gcdT n d := ⟨_, rfl⟩
  obtain ⟨X, hX⟩ : ∃ X, X = gcdE n d := ⟨_, rfl⟩
  obtain ⟨C, hC⟩ : ∃ C, C = cmpS d ⟨#[48]⟩ := ⟨_, rfl⟩
  rw [← hV, ← hG, ← hX, ← hC] at hs
  rw [← hG, ← hX] at cG
  rw [← hC] at cC
  rw [← hV]
  have r1 : RRow (w.alloc (.cells #[.string n, .string d] 23)) w.heap.size n d := Row.made w _ _
  obtain ⟨a0, a1, _, _⟩ := two_cells r1
  have R1 := Lib.hid r1; have CG := Lib.hid (cG _ (ht.below (below_alloc w (.cells #[.string n, .string d] 23)))); have CC := Lib.hid cC
  clear hV hG hX hC cG cC r1 ht
  rcases hs with ⟨h1, h2⟩ | ⟨h1, h2, h3⟩ | ⟨h1, h2, h3⟩
  · subst h2
    go_enter Tryz.func29, Tryz.ntmps29
    go_wp2_with (first
      | (go_at_call 60; (with_reducible refine CG.out.mono ?_); rintro e w2 ⟨rfl, hb2⟩)
      | fail)
    go_ret
    exact ⟨rfl, below_step (below_alloc w _) hb2⟩
  · subst h1 h3
    have e0 := ne_one h2
    go_enter Tryz.func29, Tryz.ntmps29
    go_wp2_with (first
      | (go_at_call 60; (with_reducible refine CG.out.mono ?_); rintro e w2 ⟨rfl, hb2⟩)
      | fail)
    go_ret
    exact ⟨rfl, below_step (below_alloc w _) hb2⟩
  · subst h1 h2 h3
    go_enter Tryz.func29, Tryz.ntmps29
    go_wp2_with (first
      | (go_at_call 60; (with_reducible refine CG.out.mono ?_); rintro e w2 ⟨rfl, hb2⟩; have R1' := Row.below R1.out hb2 R1.out.inside; obtain ⟨j0, j1, _, _⟩ := two_cells R1')
      | (go_at_call 51; (with_reducible refine (CC.out _).mono ?_); rintro e w3 ⟨rfl, hb3⟩)
      | fail)
    go_ret
    exact ⟨rfl, below_step (below_step (below_alloc w _) hb2) hb3⟩
end Go.Proofs.YtgpncnnlhhmjaaaGreatDoor
namespace Go.Proofs.YtgpncnnlhhmjaaaGreatDoor
open Go.RowKit

/-- Fractions in a row: two cells each. -/
def RatsAt (w : World) (g : Nat) (l : List (ByteArray × ByteArray)) : Prop := g < w.heap.size ∧ ∀ i n d, l[i]? = some (n, d) → w.cell? ⟨g, i * 2, none⟩ = some (.string n) ∧ w.cell? ⟨g, i * 2 + 1, none⟩ = some (.string d)
theorem Row.over {w W : World} {g : Nat} {t : TypeId} {C : Array Value} (h : Row w g t C) (hb : Below w.heap.size w W) : Row W g t C := h.below hb h.inside
theorem accept_nil {l : List (ByteArray × ByteArray)} {k : Nat} {x : ByteArray × ByteArray} (h : l[k]? = some x) (hv : validR x.1 x.2 = false) (n d : ByteArray) : acceptF l n d = (n, d, 40) := by
  have : l.all (fun p => validR p.1 p.2) = false := by
    rw [List.all_eq_false]
    exact ⟨x, List.mem_of_getElem? h, by simp [hv]⟩
  rw [acceptF, this]; rfl
theorem RatsAt.below {w W : World} {g : Nat} {l : List (ByteArray × ByteArray)} (h : RatsAt w g l) (hb : Below w.heap.size w W) : RatsAt W g l :=
  ⟨Nat.lt_of_lt_of_le h.1 hb.size, fun i n d hi => ⟨(hb.cell (p := ⟨g, i * 2, none⟩) h.1).trans (h.2 i n d hi).1, (hb.cell (p := ⟨g, i * 2 + 1, none⟩) h.1).trans (h.2 i n d hi).2⟩⟩

set_option maxRecDepth 100000 in
set_option maxHeartbeats 8000000 in
theorem accept_step (l : List (ByteArray × ByteArray)) (hl : l.length ≤ 100) (P g c : Nat) (n d : ByteArray) (w : World) (ht : Tab w) (h : RatsAt w g l) (hp : w.cell? ⟨P, 0, none⟩ = some (.slice (some ⟨g, 0, none⟩) l.length c)) (p1 : P < w.heap.size) :
    Calls Tryz.prog 94 #[rv n d, .pointer (some ⟨P, 0, none⟩)] w fun e w' => e = .returned (sv (acceptF l n d)) ∧ Below w.heap.size w w' := by
  obtain ⟨w1, hw1⟩ : ∃ w1, w1 = (w.alloc (.cells #[.string n, .string d] 23)).alloc (.cells #[.string ⟨#[]⟩, .string ⟨#[]⟩] 23) := ⟨_, rfl⟩
  have hb : Below w.heap.size w w1 := by rw [hw1]; exact keep_alloc (below_alloc w _) _
  have k1 := (hb.cell (p := ⟨P, 0, none⟩) p1).trans hp
  obtain ⟨L, hL⟩ : ∃ L, L = l.length := ⟨_, rfl⟩
  obtain ⟨S, hS⟩ : ∃ S, S = acceptF l n d := ⟨_, rfl⟩
  rw [← hS]
  have HS := Lib.hid hS
  clear hS
  rw [← hL] at hl k1
  have H := Lib.hid h; have HL := Lib.hid hL; have T := Lib.hid ht; have HB := Lib.hid hb
  clear h hL ht hb hp
  subst hw1
  go_enter Tryz.func94, Tryz.ntmps94
  go_wp2
  go_loopg [9] L (fun kx s9 wr => ∃ k : Nat, s9 = .int .i64 (k : Int) ∧ k + kx = L ∧ RRow wr w.heap.size n d ∧ RAny wr (w.heap.size + 1) ∧ Below w.heap.size w wr ∧ Hid (∀ x ∈ l.take k, validR x.1 x.2 = true))
  case atStart => exact ⟨0, rfl, by omega, (Row.made w _ _).later _, ⟨_, _, Row.made_at _ _ _ (by simp)⟩, keep_alloc (below_alloc w _) _, Lib.hid (fun x hx => by simp at hx)⟩
  case round =>
    obtain ⟨k, rfl, hk, hr, ha, hbr, I⟩ := hrel
    obtain ⟨j0, j1, f0, f1⟩ := two_cells hr
    obtain ⟨i0, i1, g0, g1⟩ := ha.eqs
    by_cases hlt : k < L
    · obtain ⟨⟨a, b⟩, hv⟩ : ∃ y, l[k]? = some y := ⟨l[k]'(by rw [← HL.out]; exact hlt), by simp⟩
      have hs := H.out.below hbr
      obtain ⟨c0, c1⟩ := hs.2 k a b hv
      have cV := fun W (h : Tab W) => valid_rat a b W h
      have htr := T.out.below hbr
      obtain ⟨V, hV⟩ : ∃ V, V = validR a b := ⟨_, rfl⟩
      rw [← hV] at cV
      have CV := Lib.hid cV; have HV := Lib.hid hV; have HB2 := Lib.hid hbr; have HR := Lib.hid hr; have HA := Lib.hid ha; have TR := Lib.hid htr; have HX := Lib.hid hv
      clear cV hV hbr hr ha htr hs hv
      cases V
      · go_wp2_with (first
          | (go_at_call 29; (with_reducible refine (CV.out _ (TR.out.below (below_alloc _ _))).mono ?_); rintro e w2 ⟨rfl, hb2⟩; have B2 := below_step (below_alloc _ _) hb2; have R1' := Row.over HR.out B2; obtain ⟨n0, d0, R2⟩ := HA.out; have R2' := Row.over R2 B2; obtain ⟨j0, j1, f0, f1⟩ := two_cells R1'; obtain ⟨i0, i1, g0, g1⟩ := two_cells R2')
          | fail)
        (try simp only [Exit.inBlock, Exit.then])
        refine bodyPost_ret (res_rt rfl rfl (rat_put ⟨_, _, R2'⟩ _ _)) rfl ?_
        refine ⟨?_, below_put (below_step HB2.out B2) (Nat.le_succ _) _ _⟩
        rw [HS.out, accept_nil HX.out HV.out.symm]
        rfl
      · go_wp2_with (first
          | (go_at_call 29; (with_reducible refine (CV.out _ (TR.out.below (below_alloc _ _))).mono ?_); rintro e w2 ⟨rfl, hb2⟩)
          | fail)
        have B2 := below_step (below_alloc _ _) hb2
        go_roundg (L - (k + 1))
        case measure => omega
        case rel =>
          obtain ⟨n0, d0, R2⟩ := HA.out
          refine ⟨k + 1, by go_num, by omega, Row.over HR.out B2, ⟨_, _, Row.over R2 B2⟩, below_step HB2.out B2, Lib.hid ?_⟩
          intro x hx
          rw [List.take_succ_eq_append_getElem (by rw [← HL.out]; exact hlt)] at hx
          rcases List.mem_append.1 hx with h1 | h1
          · exact I.out x h1
          · have h2 := (List.getElem?_eq_some_iff.1 HX.out).2
            rw [h2] at h1
            have h3 : x = (a, b) := by simpa using h1
            subst h3
            exact HV.out.symm
    · have HB2 := Lib.hid hbr; have HA := Lib.hid ha; have HK := Lib.hid (show k = l.length by rw [← HL.out]; omega)
      clear hr ha hbr
      go_wp2
      (try simp only [Exit.inBlock, Exit.then])
      refine bodyPost_ret (res_rt rfl rfl (rat_put HA.out _ _)) rfl ?_
      refine ⟨?_, below_put HB2.out (Nat.le_succ _) _ _⟩
      have hI := I.out
      rw [HK.out, List.take_length] at hI
      rw [HS.out, accept_yes (List.all_eq_true.2 hI)]
      rfl
end Go.Proofs.YtgpncnnlhhmjaaaGreatDoor
namespace Go.Proofs.YtgpncnnlhhmjaaaGreatDoor
open Go.RowKit

theorem two_steps {w : World} {g : Nat} {v1 v2 : Value} {F1 F2 : Stp} (hr : Row w g 79 #[v1, v2]) (h1 : StepIs w v1 F1) (h2 : StepIs w v2 F2) : StepsAt w g [(v1, F1), (v2, F2)] := by
  refine ⟨hr.inside, ?_, ?_⟩
  · intro i v F hi
    match i, hi with
    | 0, hi => obtain ⟨rfl, rfl⟩ : v1 = v ∧ F1 = F := by simpa using hi
               exact hr.at rfl
    | 1, hi => obtain ⟨rfl, rfl⟩ : v2 = v ∧ F2 = F := by simpa using hi
               exact hr.at rfl
    | i + 2, hi => simp at hi
  · intro x hx
    rcases List.mem_cons.1 hx with h | h
    · subst h; exact h1
    · rcases List.mem_cons.1 h with h | h
      · subst h; exact h2
      · cases h
theorem follow_two {w : World} {g c : Nat} {v1 v2 : Value} {F1 F2 : Stp} (n d : ByteArray) (hr : Row w g 79 #[v1, v2]) (h1 : StepIs w v1 F1) (h2 : StepIs w v2 F2) :
    Calls Tryz.prog 85 #[rv n d, .slice (some ⟨g, 0, none⟩) 2 c] w fun e w' => e = .returned (sv (runF [F1, F2] n d 0)) ∧ Below w.heap.size w w' :=
  follow_any [(v1, F1), (v2, F2)] (by simp) g c n d w (two_steps hr h1 h2)

/-- A fraction boxed, and a result made. -/
def HR (w : World) (n d : ByteArray) (W : World) : Prop := Below w.heap.size w W ∧ RRow W w.heap.size n d ∧ RAny W (w.heap.size + 1)
section
variable {w W W' : World} {n d : ByteArray}
theorem HR.drew (h : HR w n d W) : HR w n d W.drew := ⟨h.1.drew, h.2.1.drawn, h.2.2⟩
theorem HR.step (h : HR w n d W) (b : Below W.heap.size W W') : HR w n d W' := by
  obtain ⟨hb, r1, n0, d0, r2⟩ := h
  exact ⟨below_step hb b, Row.over r1 b, n0, d0, Row.over r2 b⟩
theorem HR.put (h : HR w n d W) (a b : ByteArray) : HR w n d ((W.setCell ⟨w.heap.size + 1, 0, none⟩ (.string a)).setCell ⟨w.heap.size + 1, 1, none⟩ (.string b)) :=
  ⟨below_put h.1 (Nat.le_succ _) _ _, num_far h.2.1 (by omega) _ _, ⟨_, _, rat_put h.2.2 a b⟩⟩
theorem HR.eqs (h : HR w n d W) : W.cell? ⟨w.heap.size, 0, none⟩ = some (.string n) ∧ W.cell? ⟨w.heap.size, 1, none⟩ = some (.string d) ∧ W.cell? ⟨w.heap.size + 1, 0, none⟩ = some (cellOf W ⟨w.heap.size + 1, 0, none⟩) ∧ W.cell? ⟨w.heap.size + 1, 1, none⟩ = some (cellOf W ⟨w.heap.size + 1, 1, none⟩) ∧ W.frozen? ⟨w.heap.size + 1, 0, none⟩ = false ∧ W.frozen? ⟨w.heap.size + 1, 1, none⟩ = false := by
  obtain ⟨k0, k1, _, _⟩ := two_cells h.2.1
  obtain ⟨i0, i1, f0, f1⟩ := h.2.2.eqs
  exact ⟨k0, k1, i0, i1, f0, f1⟩
end
theorem hr_start (w : World) (n d : ByteArray) : HR w n d ((w.alloc (.cells #[.string n, .string d] 23)).alloc (.cells #[.string ⟨#[]⟩, .string ⟨#[]⟩] 23)) :=
  ⟨keep_alloc (below_alloc w _) _, (Row.made w _ _).later _, ⟨_, _, Row.made_at _ _ _ (by simp)⟩⟩

set_option maxRecDepth 100000 in
set_option maxHeartbeats 8000000 in
theorem scale_step (P1 P2 : Nat) (x y n d : ByteArray) (w : World) (ht : Tab w) (h1 : w.cell? ⟨P1, 0, none⟩ = some (.string x)) (h2 : w.cell? ⟨P2, 0, none⟩ = some (.string y)) (p1 : P1 < w.heap.size) (p2 : P2 < w.heap.size) :
    Calls Tryz.prog 95 #[rv n d, .pointer (some ⟨P1, 0, none⟩), .pointer (some ⟨P2, 0, none⟩)] w fun e w' => e = .returned (sv (scaleF x y n d)) ∧ Below w.heap.size w w' := by
  have h0 := hr_start w n d
  have kk : ∀ W, HR w n d W → (Hid (HR w n d W) ∧ W.cell? ⟨P1, 0, none⟩ = some (.string x) ∧ W.cell? ⟨P2, 0, none⟩ = some (.string y) ∧ W.cell? ⟨w.heap.size, 0, none⟩ = some (.string n) ∧ W.cell? ⟨w.heap.size, 1, none⟩ = some (.string d) ∧ W.cell? ⟨w.heap.size + 1, 0, none⟩ = some (cellOf W ⟨w.heap.size + 1, 0, none⟩) ∧ W.cell? ⟨w.heap.size + 1, 1, none⟩ = some (cellOf W ⟨w.heap.size + 1, 1, none⟩) ∧ W.frozen? ⟨w.heap.size + 1, 0, none⟩ = false ∧ W.frozen? ⟨w.heap.size + 1, 1, none⟩ = false) := fun W h => ⟨Lib.hid h, (h.1.cell (p := ⟨P1, 0, none⟩) p1).trans h1, (h.1.cell (p := ⟨P2, 0, none⟩) p2).trans h2, h.eqs⟩
  have gg : ∀ W, (Hid (HR w n d W) ∧ W.cell? ⟨P1, 0, none⟩ = some (.string x) ∧ W.cell? ⟨P2, 0, none⟩ = some (.string y) ∧ W.cell? ⟨w.heap.size, 0, none⟩ = some (.string n) ∧ W.cell? ⟨w.heap.size, 1, none⟩ = some (.string d) ∧ W.cell? ⟨w.heap.size + 1, 0, none⟩ = some (cellOf W ⟨w.heap.size + 1, 0, none⟩) ∧ W.cell? ⟨w.heap.size + 1, 1, none⟩ = some (cellOf W ⟨w.heap.size + 1, 1, none⟩) ∧ W.frozen? ⟨w.heap.size + 1, 0, none⟩ = false ∧ W.frozen? ⟨w.heap.size + 1, 1, none⟩ = false) → HR w n d W := fun W h => h.1.out
  obtain ⟨S, hS⟩ : ∃ S, S = scaleF x y n d := ⟨_, rfl⟩
  rw [← hS]
  have cF := fun (W : World) (g c : Nat) (v1 v2 : Value) (hr : Row W g 79 #[v1, v2]) (q1 : StepIs W v1 (numF mulT mulE x)) (q2 : StepIs W v2 (denF mulT mulE y)) => follow_two (c := c) n d hr q1 q2
  have e0 : runF [numF mulT mulE x, denF mulT mulE y] n d 0 = S := hS.symm
  rw [e0] at cF
  have KK := Lib.hid kk; have GG := Lib.hid gg; have H0 := Lib.hid h0; have T := Lib.hid ht; have CF := Lib.hid cF
  have CN := Lib.hid (fun W (h : Tab W) => numerator_is op_mul x W h); have CD := Lib.hid (fun W (h : Tab W) => denominator_is op_mul y W h)
  clear kk gg h0 ht h1 h2 p1 p2 hS e0 cF
  go_enter Tryz.func95, Tryz.ntmps95
  go_wp2
  generalize ((w.alloc (.cells #[.string n, .string d] 23)).alloc (.cells #[.string ⟨#[]⟩, .string ⟨#[]⟩] 23)) = W0 at H0 ⊢
  go_region_held3 (fun W => Hid (HR w n d W) ∧ W.cell? ⟨P1, 0, none⟩ = some (.string x) ∧ W.cell? ⟨P2, 0, none⟩ = some (.string y) ∧ W.cell? ⟨w.heap.size, 0, none⟩ = some (.string n) ∧ W.cell? ⟨w.heap.size, 1, none⟩ = some (.string d) ∧ W.cell? ⟨w.heap.size + 1, 0, none⟩ = some (cellOf W ⟨w.heap.size + 1, 0, none⟩) ∧ W.cell? ⟨w.heap.size + 1, 1, none⟩ = some (cellOf W ⟨w.heap.size + 1, 1, none⟩) ∧ W.frozen? ⟨w.heap.size + 1, 0, none⟩ = false ∧ W.frozen? ⟨w.heap.size + 1, 1, none⟩ = false)
    (first | assumption | exact KK.out _ H0.out.drew | exact KK.out _ (HR.step (GG.out _ (by assumption)) (by assumption)) | exact KK.out _ (HR.step (GG.out _ (by assumption)) (below_alloc _ _)) | exact KK.out _ (HR.put (GG.out _ (by assumption)) _ _))
    (first
      | (go_at_call 96; ((refine (CN.out _ (T.out.below (GG.out _ (by assumption)).1)).mono ?_); rintro e w6 ⟨v1, rfl, s1, b6⟩; obtain ⟨f1, x1, rfl⟩ := s1.shape))
      | (go_at_call 98; ((refine (CD.out _ (T.out.below (GG.out _ (by assumption)).1)).mono ?_); rintro e w7 ⟨v2, rfl, s2, b7⟩; obtain ⟨f2, x2, rfl⟩ := s2.shape))
      | (go_at_call 85; ((refine (CF.out _ _ _ _ _ (Row.made _ _ _) ((s1.below b7).below (below_alloc _ _)) (s2.below (below_alloc _ _))).mono ?_); rintro e w8 ⟨rfl, b8⟩)))
  all_goals go_wp2
  have B8 : HR w n d w8 := HR.step (HR.step (HR.step (HR.step H0.out.drew b6) b7) (below_alloc _ _)) b8
  (try simp only [Exit.inBlock, Exit.then])
  refine bodyPost_ret (res_rt rfl rfl (rat_put B8.2.2 _ _)) rfl ?_
  exact ⟨rfl, (B8.put _ _).1⟩
theorem scale_is (x y : ByteArray) (w : World) (ht : Tab w) :
    Calls Tryz.prog 66 #[.string x, .string y] w fun e w' => ∃ v, e = .returned v ∧ StepIs w' v (scaleF x y) ∧ Below w.heap.size w w' := by
  refine (scale_raw x y w).mono ?_
  rintro e w' ⟨rfl, rfl⟩
  have hb : Below w.heap.size w ((w.alloc (.cells #[.string x] 9)).alloc (.cells #[.string y] 9)) := keep_alloc (below_alloc w _) _
  refine ⟨_, rfl, ⟨_, _, rfl, enters_of Tryz.func95 (by kernel_rfl) rfl, fun W hW n d => ?_⟩, hb⟩
  have r1 : Row ((w.alloc (.cells #[.string x] 9)).alloc (.cells #[.string y] 9)) w.heap.size 9 #[.string x] := (Row.made w _ _).later _
  have r2 : Row ((w.alloc (.cells #[.string x] 9)).alloc (.cells #[.string y] 9)) (w.heap.size + 1) 9 #[.string y] := Row.made_at _ _ _ (by simp)
  have q1 := Row.over r1 hW
  have q2 := Row.over r2 hW
  exact scale_step _ _ x y n d W ((ht.below hb).below hW) (q1.at rfl) (q2.at rfl) q1.inside q2.inside
theorem accept_is (l : List (ByteArray × ByteArray)) (hl : l.length ≤ 100) (g c : Nat) (w : World) (ht : Tab w) (h : RatsAt w g l) :
    Calls Tryz.prog 65 #[.slice (some ⟨g, 0, none⟩) l.length c] w fun e w' => ∃ v, e = .returned v ∧ StepIs w' v (acceptF l) ∧ Below w.heap.size w w' := by
  refine (accept_raw _ _ _ w).mono ?_
  rintro e w' ⟨rfl, rfl⟩
  have hb : Below w.heap.size w (w.alloc (.cells #[.slice (some ⟨g, 0, none⟩) l.length c] 30)) := below_alloc w _
  refine ⟨_, rfl, ⟨_, _, rfl, enters_of Tryz.func94 (by kernel_rfl) rfl, fun W hW n d => ?_⟩, hb⟩
  have r1 : Row (w.alloc (.cells #[.slice (some ⟨g, 0, none⟩) l.length c] 30)) w.heap.size 30 #[.slice (some ⟨g, 0, none⟩) l.length c] := Row.made w _ _
  have q1 := Row.over r1 hW
  exact accept_step l hl _ g c n d W ((ht.below hb).below hW) ((h.below hb).below hW) (q1.at rfl) q1.inside
end Go.Proofs.YtgpncnnlhhmjaaaGreatDoor
