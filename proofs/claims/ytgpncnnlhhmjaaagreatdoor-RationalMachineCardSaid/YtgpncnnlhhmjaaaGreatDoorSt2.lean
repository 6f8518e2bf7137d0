/- The steps include, cut, positive, lowest; build. -/
import Derived.Test.YtgpncnnlhhmjaaaGreatDoorSca
namespace Go.Proofs.YtgpncnnlhhmjaaaGreatDoor
open Go.RowKit

theorem HR.res {w W : World} {n d : ByteArray} (h : HR w n d W) : RAny W (w.heap.size + 1) := h.2.2
set_option maxRecDepth 100000 in
set_option maxHeartbeats 8000000 in
theorem include_step {T : ByteArray → ByteArray → ByteArray} {E : ByteArray → ByteArray → Int} (P1 P2 P3 k : Nat) (x y n d : ByteArray) (w : World) (ht : Tab w) (hP1 : w.cell? ⟨P1, 0, none⟩ = some (.string x)) (hP2 : w.cell? ⟨P2, 0, none⟩ = some (.string y)) (hP3 : w.cell? ⟨P3, 0, none⟩ = some (.func (.func k) #[] #[])) (pP1 : P1 < w.heap.size) (pP2 : P2 < w.heap.size) (pP3 : P3 < w.heap.size) (hV : OpIs (.func (.func k) #[] #[]) T E) :
    Calls Tryz.prog 119 #[rv n d, .pointer (some ⟨P1, 0, none⟩), .pointer (some ⟨P2, 0, none⟩), .pointer (some ⟨P3, 0, none⟩)] w fun e w' => e = .returned (sv (includeF T E x y n d)) ∧ Below w.heap.size w w' := by
  have h0 := hr_start w n d
  have kk : ∀ W, HR w n d W → (Hid (HR w n d W) ∧ W.cell? ⟨P1, 0, none⟩ = some (.string x) ∧ W.cell? ⟨P2, 0, none⟩ = some (.string y) ∧ W.cell? ⟨P3, 0, none⟩ = some (.func (.func k) #[] #[]) ∧ W.cell? ⟨w.heap.size, 0, none⟩ = some (.string n) ∧ W.cell? ⟨w.heap.size, 1, none⟩ = some (.string d) ∧ W.cell? ⟨w.heap.size + 1, 0, none⟩ = some (cellOf W ⟨w.heap.size + 1, 0, none⟩) ∧ W.cell? ⟨w.heap.size + 1, 1, none⟩ = some (cellOf W ⟨w.heap.size + 1, 1, none⟩) ∧ W.frozen? ⟨w.heap.size + 1, 0, none⟩ = false ∧ W.frozen? ⟨w.heap.size + 1, 1, none⟩ = false) := fun W h => ⟨Lib.hid h, (h.1.cell (p := ⟨P1, 0, none⟩) pP1).trans hP1, (h.1.cell (p := ⟨P2, 0, none⟩) pP2).trans hP2, (h.1.cell (p := ⟨P3, 0, none⟩) pP3).trans hP3, h.eqs⟩
  have gg : ∀ W, (Hid (HR w n d W) ∧ W.cell? ⟨P1, 0, none⟩ = some (.string x) ∧ W.cell? ⟨P2, 0, none⟩ = some (.string y) ∧ W.cell? ⟨P3, 0, none⟩ = some (.func (.func k) #[] #[]) ∧ W.cell? ⟨w.heap.size, 0, none⟩ = some (.string n) ∧ W.cell? ⟨w.heap.size, 1, none⟩ = some (.string d) ∧ W.cell? ⟨w.heap.size + 1, 0, none⟩ = some (cellOf W ⟨w.heap.size + 1, 0, none⟩) ∧ W.cell? ⟨w.heap.size + 1, 1, none⟩ = some (cellOf W ⟨w.heap.size + 1, 1, none⟩) ∧ W.frozen? ⟨w.heap.size + 1, 0, none⟩ = false ∧ W.frozen? ⟨w.heap.size + 1, 1, none⟩ = false) → HR w n d W := fun W h => h.1.out
  have KK := Lib.hid kk; have GG := Lib.hid gg
  clear kk gg
  obtain ⟨a1, a2, a3⟩ := (KK.out _ h0).2
  obtain ⟨S, hS⟩ : ∃ S, S = includeF T E x y n d := ⟨_, rfl⟩
  rw [← hS]
  have cM := mul_any x y ((w.alloc (.cells #[.string n, .string d] 23)).alloc (.cells #[.string ⟨#[]⟩, .string ⟨#[]⟩] 23)) (ht.below h0.1)
  rw [← mulT, ← mulE] at cM
  obtain ⟨M, hM⟩ : ∃ M, M = mulT x y := ⟨_, rfl⟩
  obtain ⟨X, hX⟩ : ∃ X, X = mulE x y := ⟨_, rfl⟩
  have hS2 : S = if X = 0 then numF T E M n d else (n, d, X) := by rw [hS, hX, hM]; rfl
  rw [← hM, ← hX] at cM
  have CN := Lib.hid (fun W (h : Tab W) => numerator_is hV M W h); have CM := Lib.hid cM; have H0 := Lib.hid h0; have T0 := Lib.hid ht; have HS := Lib.hid hS2
  clear h0 ht hS hM hX hS2 cM hV hP1 hP2 hP3 pP1 pP2 pP3
  by_cases hx : X = 0
  · subst hx
    have hS3 := HS.out
    rw [if_pos rfl] at hS3
    subst hS3
    clear HS
    go_enter Tryz.func119, Tryz.ntmps119
    go_wp2_with (first
      | (go_at_call 97; (with_reducible refine CM.out.mono ?_); rintro e w2 ⟨rfl, hb2⟩; have H2 := HR.step H0.out hb2; obtain ⟨c1, c2, c3, c4, c5, c6, c7, c8, c9⟩ := (KK.out _ H2).2)
      | fail)
    have H1 := Lib.hid H2
    clear c1 c2 c3 c4 c5 c6 c7 c8 c9 H0 H2
    have H0 := H1; clear H1
    go_region_held3 (fun W => Hid (HR w n d W) ∧ W.cell? ⟨P1, 0, none⟩ = some (.string x) ∧ W.cell? ⟨P2, 0, none⟩ = some (.string y) ∧ W.cell? ⟨P3, 0, none⟩ = some (.func (.func k) #[] #[]) ∧ W.cell? ⟨w.heap.size, 0, none⟩ = some (.string n) ∧ W.cell? ⟨w.heap.size, 1, none⟩ = some (.string d) ∧ W.cell? ⟨w.heap.size + 1, 0, none⟩ = some (cellOf W ⟨w.heap.size + 1, 0, none⟩) ∧ W.cell? ⟨w.heap.size + 1, 1, none⟩ = some (cellOf W ⟨w.heap.size + 1, 1, none⟩) ∧ W.frozen? ⟨w.heap.size + 1, 0, none⟩ = false ∧ W.frozen? ⟨w.heap.size + 1, 1, none⟩ = false)
      (first | assumption | exact KK.out _ H0.out.drew | exact KK.out _ (HR.step (GG.out _ (by assumption)) (by assumption)) | exact KK.out _ (HR.step (GG.out _ (by assumption)) (below_alloc _ _)) | exact KK.out _ (HR.put (GG.out _ (by assumption)) _ _))
      (first
        | (go_at_call 96; ((refine (CN.out _ (T0.out.below (GG.out _ (by assumption)).1)).mono ?_); rintro e w6 ⟨v1, rfl, s1, b6⟩; obtain ⟨f1, x1, rfl, he1, hc1⟩ := s1; have HC1 := Lib.hid hc1; clear hc1))
        | (go_at_fn f1; ((refine (HC1.out _ (Below.refl _ _) n d).mono ?_); rintro e w8 ⟨rfl, b8⟩)))
    all_goals go_wp2
    have B8 : HR w n d w8 := HR.step (HR.step H0.out.drew b6) b8
    (try simp only [Exit.inBlock, Exit.then])
    refine bodyPost_ret (res_rt rfl rfl (rat_put B8.2.2 _ _)) rfl ?_
    exact ⟨rfl, (B8.put _ _).1⟩
  · have hS3 := HS.out
    rw [if_neg hx] at hS3
    subst hS3
    go_enter Tryz.func119, Tryz.ntmps119
    go_wp2_with (first
      | (go_at_call 97; (with_reducible refine CM.out.mono ?_); rintro e w2 ⟨rfl, hb2⟩; have H2 := HR.step H0.out hb2; obtain ⟨c1, c2, c3, c4, c5, c6, c7, c8, c9⟩ := (KK.out _ H2).2)
      | fail)
    (try simp only [Exit.inBlock, Exit.then])
    refine bodyPost_ret (res_rt rfl rfl (rat_put H2.2.2 _ _)) rfl ?_
    exact ⟨rfl, (H2.put _ _).1⟩
set_option maxRecDepth 100000 in
set_option maxHeartbeats 8000000 in
theorem cut_step (P1 P2 : Nat) (m t n d : ByteArray) (w : World) (ht : Tab w) (hP1 : w.cell? ⟨P1, 0, none⟩ = some (.string m)) (hP2 : w.cell? ⟨P2, 0, none⟩ = some (.string t)) (pP1 : P1 < w.heap.size) (pP2 : P2 < w.heap.size) :
    Calls Tryz.prog 114 #[rv n d, .pointer (some ⟨P1, 0, none⟩), .pointer (some ⟨P2, 0, none⟩)] w fun e w' => e = .returned (sv (cutF t m n d)) ∧ Below w.heap.size w w' := by
  have h0 := hr_start w n d
  have kk : ∀ W, HR w n d W → (Hid (HR w n d W) ∧ W.cell? ⟨P1, 0, none⟩ = some (.string m) ∧ W.cell? ⟨P2, 0, none⟩ = some (.string t) ∧ W.cell? ⟨w.heap.size, 0, none⟩ = some (.string n) ∧ W.cell? ⟨w.heap.size, 1, none⟩ = some (.string d) ∧ W.cell? ⟨w.heap.size + 1, 0, none⟩ = some (cellOf W ⟨w.heap.size + 1, 0, none⟩) ∧ W.cell? ⟨w.heap.size + 1, 1, none⟩ = some (cellOf W ⟨w.heap.size + 1, 1, none⟩) ∧ W.frozen? ⟨w.heap.size + 1, 0, none⟩ = false ∧ W.frozen? ⟨w.heap.size + 1, 1, none⟩ = false) := fun W h => ⟨Lib.hid h, (h.1.cell (p := ⟨P1, 0, none⟩) pP1).trans hP1, (h.1.cell (p := ⟨P2, 0, none⟩) pP2).trans hP2, h.eqs⟩
  have gg : ∀ W, (Hid (HR w n d W) ∧ W.cell? ⟨P1, 0, none⟩ = some (.string m) ∧ W.cell? ⟨P2, 0, none⟩ = some (.string t) ∧ W.cell? ⟨w.heap.size, 0, none⟩ = some (.string n) ∧ W.cell? ⟨w.heap.size, 1, none⟩ = some (.string d) ∧ W.cell? ⟨w.heap.size + 1, 0, none⟩ = some (cellOf W ⟨w.heap.size + 1, 0, none⟩) ∧ W.cell? ⟨w.heap.size + 1, 1, none⟩ = some (cellOf W ⟨w.heap.size + 1, 1, none⟩) ∧ W.frozen? ⟨w.heap.size + 1, 0, none⟩ = false ∧ W.frozen? ⟨w.heap.size + 1, 1, none⟩ = false) → HR w n d W := fun W h => h.1.out
  have KK := Lib.hid kk; have GG := Lib.hid gg
  clear kk gg
  obtain ⟨a1, a2, a3, a4, a5, a6, a7, a8⟩ := (KK.out _ h0).2
  have cD := Div_any n d ((w.alloc (.cells #[.string n, .string d] 23)).alloc (.cells #[.string ⟨#[]⟩, .string ⟨#[]⟩] 23)) (ht.below h0.1)
  obtain ⟨S, hS⟩ : ∃ S, S = cutF t m n d := ⟨_, rfl⟩
  rw [← hS]
  obtain ⟨q, hq⟩ : ∃ q, q = divQ n d := ⟨_, rfl⟩
  obtain ⟨r, hr⟩ : ∃ r, r = divR n d := ⟨_, rfl⟩
  obtain ⟨X, hX⟩ : ∃ X, X = divE n d := ⟨_, rfl⟩
  have hS2 : S = if X = 0 ∧ r ≠ ⟨#[48]⟩ then (addT q m, t, addE q m) else (q, t, X) := by rw [hS, hX, hr, hq]; rfl
  rw [← hq, ← hr, ← hX] at cD
  have cA := fun W (h : Tab W) => add_any q m W h
  rw [← addT, ← addE] at cA
  have CD := Lib.hid cD; have CA := Lib.hid cA; have H0 := Lib.hid h0; have T0 := Lib.hid ht
  clear h0 ht hS hq hr hX cD cA hP1 hP2 pP1 pP2 
  by_cases hx : X = 0
  · by_cases h48 : r = ⟨#[48]⟩
    · subst hx h48
      rw [if_neg (by simp)] at hS2
      subst hS2
      go_enter Tryz.func114, Tryz.ntmps114
      go_wp2_with (first
        | (go_at_call 50; (with_reducible refine CD.out.mono ?_); rintro e w2 ⟨rfl, hb2⟩; have H2 := HR.step H0.out hb2; obtain ⟨c1, c2, c3, c4, c5, c6, c7, c8⟩ := (KK.out _ H2).2)
        | fail)
      (try simp only [Exit.inBlock, Exit.then])
      refine bodyPost_ret (res_rt rfl rfl (rat_put H2.2.2 _ _)) rfl ?_
      exact ⟨rfl, (H2.put _ _).1⟩
    · subst hx
      rw [if_pos ⟨rfl, h48⟩] at hS2
      subst hS2
      have e0 := ne_zero h48
      go_enter Tryz.func114, Tryz.ntmps114
      go_wp2_with (first
        | (go_at_call 50; (with_reducible refine CD.out.mono ?_); rintro e w2 ⟨rfl, hb2⟩; have H2 := HR.step H0.out hb2; obtain ⟨c1, c2, c3, c4, c5, c6, c7, c8⟩ := (KK.out _ H2).2)
        | (go_at_call 64; (refine (CA.out _ (T0.out.below H2.1)).mono ?_); rintro e w3 ⟨rfl, hb3⟩; have H3 := HR.step H2 hb3; obtain ⟨b1, b2, b3, b4, b5, b6, b7, b8⟩ := (KK.out _ H3).2)
        | fail)
      (try simp only [Exit.inBlock, Exit.then])
      refine bodyPost_ret (res_rt rfl rfl (rat_put H3.2.2 _ _)) rfl ?_
      exact ⟨rfl, (H3.put _ _).1⟩
  · rw [if_neg (fun h => hx h.1)] at hS2
    subst hS2
    go_enter Tryz.func114, Tryz.ntmps114
    go_wp2_with (first
      | (go_at_call 50; (with_reducible refine CD.out.mono ?_); rintro e w2 ⟨rfl, hb2⟩; have H2 := HR.step H0.out hb2; obtain ⟨c1, c2, c3, c4, c5, c6, c7, c8⟩ := (KK.out _ H2).2)
      | fail)
    (try simp only [Exit.inBlock, Exit.then])
    refine bodyPost_ret (res_rt rfl rfl (rat_put H2.2.2 _ _)) rfl ?_
    exact ⟨rfl, (H2.put _ _).1⟩
set_option maxRecDepth 100000 in
set_option maxHeartbeats 8000000 in
theorem positive_step (n d : ByteArray) (w : World) (ht : Tab w) :
    Calls Tryz.prog 86 #[rv n d] w fun e w' => e = .returned (sv (posF n d)) ∧ Below w.heap.size w w' := by
  have h0 := hr_start w n d
  have kk : ∀ W, HR w n d W → (Hid (HR w n d W) ∧ W.cell? ⟨w.heap.size, 0, none⟩ = some (.string n) ∧ W.cell? ⟨w.heap.size, 1, none⟩ = some (.string d) ∧ W.cell? ⟨w.heap.size + 1, 0, none⟩ = some (cellOf W ⟨w.heap.size + 1, 0, none⟩) ∧ W.cell? ⟨w.heap.size + 1, 1, none⟩ = some (cellOf W ⟨w.heap.size + 1, 1, none⟩) ∧ W.frozen? ⟨w.heap.size + 1, 0, none⟩ = false ∧ W.frozen? ⟨w.heap.size + 1, 1, none⟩ = false) := fun W h => ⟨Lib.hid h, h.eqs⟩
  have gg : ∀ W, (Hid (HR w n d W) ∧ W.cell? ⟨w.heap.size, 0, none⟩ = some (.string n) ∧ W.cell? ⟨w.heap.size, 1, none⟩ = some (.string d) ∧ W.cell? ⟨w.heap.size + 1, 0, none⟩ = some (cellOf W ⟨w.heap.size + 1, 0, none⟩) ∧ W.cell? ⟨w.heap.size + 1, 1, none⟩ = some (cellOf W ⟨w.heap.size + 1, 1, none⟩) ∧ W.frozen? ⟨w.heap.size + 1, 0, none⟩ = false ∧ W.frozen? ⟨w.heap.size + 1, 1, none⟩ = false) → HR w n d W := fun W h => h.1.out
  have KK := Lib.hid kk; have GG := Lib.hid gg
  clear kk gg
  obtain ⟨a3, a4, a5, a6, a7, a8⟩ := (KK.out _ h0).2
  have cC := Compare_any d ⟨#[48]⟩ ((w.alloc (.cells #[.string n, .string d] 23)).alloc (.cells #[.string ⟨#[]⟩, .string ⟨#[]⟩] 23))
  obtain ⟨S, hS⟩ : ∃ S, S = posF n d := ⟨_, rfl⟩
  rw [← hS]
  obtain ⟨X, hX⟩ : ∃ X, X = cmpS d ⟨#[48]⟩ := ⟨_, rfl⟩
  have hS2 : S = if X = 1 then (n, d, 0) else if X = -1 then scaleF ⟨#[45, 49]⟩ ⟨#[45, 49]⟩ n d else (n, d, 40) := by rw [hS, hX]; rfl
  rw [← hX] at cC
  have CC := Lib.hid cC; have H0 := Lib.hid h0; have T0 := Lib.hid ht; have CS := Lib.hid (fun W (h : Tab W) => scale_is ⟨#[45, 49]⟩ ⟨#[45, 49]⟩ W h)
  clear h0 ht hS hX cC
  by_cases h1 : X = 1
  · subst h1
    rw [if_pos rfl] at hS2
    subst hS2
    go_enter Tryz.func86, Tryz.ntmps86
    go_wp2_with (first
      | (go_at_call 51; (with_reducible refine CC.out.mono ?_); rintro e w2 ⟨rfl, hb2⟩; have H2 := HR.step H0.out hb2; obtain ⟨c3, c4, c5, c6, c7, c8⟩ := (KK.out _ H2).2)
      | fail)
    (try simp only [Exit.inBlock, Exit.then])
    refine bodyPost_ret (res_rt rfl rfl (rat_put H2.2.2 _ _)) rfl ?_
    exact ⟨rfl, (H2.put _ _).1⟩
  · rw [if_neg h1] at hS2
    by_cases h2 : X = -1
    · subst h2
      rw [if_pos rfl] at hS2
      subst hS2
      go_enter Tryz.func86, Tryz.ntmps86
      go_wp2_with (first
        | (go_at_call 51; (with_reducible refine CC.out.mono ?_); rintro e w2 ⟨rfl, hb2⟩; have H2 := HR.step H0.out hb2; obtain ⟨c3, c4, c5, c6, c7, c8⟩ := (KK.out _ H2).2)
        | fail)
      have H1 := Lib.hid H2
      clear c3 c4 c5 c6 c7 c8 H0 H2
      have H0 := H1; clear H1
      go_region_held3 (fun W => Hid (HR w n d W) ∧ W.cell? ⟨w.heap.size, 0, none⟩ = some (.string n) ∧ W.cell? ⟨w.heap.size, 1, none⟩ = some (.string d) ∧ W.cell? ⟨w.heap.size + 1, 0, none⟩ = some (cellOf W ⟨w.heap.size + 1, 0, none⟩) ∧ W.cell? ⟨w.heap.size + 1, 1, none⟩ = some (cellOf W ⟨w.heap.size + 1, 1, none⟩) ∧ W.frozen? ⟨w.heap.size + 1, 0, none⟩ = false ∧ W.frozen? ⟨w.heap.size + 1, 1, none⟩ = false)
        (first | assumption | exact KK.out _ H0.out.drew | exact KK.out _ (HR.step (GG.out _ (by assumption)) (by assumption)) | exact KK.out _ (HR.step (GG.out _ (by assumption)) (below_alloc _ _)) | exact KK.out _ (HR.put (GG.out _ (by assumption)) _ _))
        (first
          | (go_at_call 66; ((refine (CS.out _ (T0.out.below (GG.out _ (by assumption)).1)).mono ?_); rintro e w6 ⟨v1, rfl, s1, b6⟩; obtain ⟨f1, x1, rfl, he1, hc1⟩ := s1; have HC1 := Lib.hid hc1; clear hc1))
          | (go_at_fn f1; ((refine (HC1.out _ (Below.refl _ _) n d).mono ?_); rintro e w8 ⟨rfl, b8⟩)))
      all_goals go_wp2
      have B8 : HR w n d w8 := HR.step (HR.step H0.out.drew b6) b8
      (try simp only [Exit.inBlock, Exit.then])
      refine bodyPost_ret (res_rt rfl rfl (rat_put B8.2.2 _ _)) rfl ?_
      exact ⟨rfl, (B8.put _ _).1⟩
    · rw [if_neg h2] at hS2
      subst hS2
      go_enter Tryz.func86, Tryz.ntmps86
      go_wp2_with (first
        | (go_at_call 51; (with_reducible refine CC.out.mono ?_); rintro e w2 ⟨rfl, hb2⟩; have H2 := HR.step H0.out hb2; obtain ⟨c3, c4, c5, c6, c7, c8⟩ := (KK.out _ H2).2)
        | fail)
      (try simp only [Exit.inBlock, Exit.then])
      refine bodyPost_ret (res_rt rfl rfl (rat_put H2.2.2 _ _)) rfl ?_
      exact ⟨rfl, (H2.put _ _).1⟩
set_option maxRecDepth 100000 in
set_option maxHeartbeats 8000000 in
theorem lowest_step (n d : ByteArray) (w : World) (ht : Tab w) :
    Calls Tryz.prog 87 #[rv n d] w fun e w' => e = .returned (sv (lowF n d)) ∧ Below w.heap.size w w' := by
  have h0 := hr_start w n d
  have kk : ∀ W, HR w n d W → (Hid (HR w n d W) ∧ W.cell? ⟨w.heap.size, 0, none⟩ = some (.string n) ∧ W.cell? ⟨w.heap.size, 1, none⟩ = some (.string d) ∧ W.cell? ⟨w.heap.size + 1, 0, none⟩ = some (cellOf W ⟨w.heap.size + 1, 0, none⟩) ∧ W.cell? ⟨w.heap.size + 1, 1, none⟩ = some (cellOf W ⟨w.heap.size + 1, 1, none⟩) ∧ W.frozen? ⟨w.heap.size + 1, 0, none⟩ = false ∧ W.frozen? ⟨w.heap.size + 1, 1, none⟩ = false) := fun W h => ⟨Lib.hid h, h.eqs⟩
  have gg : ∀ W, (Hid (HR w n d W) ∧ W.cell? ⟨w.heap.size, 0, none⟩ = some (.string n) ∧ W.cell? ⟨w.heap.size, 1, none⟩ = some (.string d) ∧ W.cell? ⟨w.heap.size + 1, 0, none⟩ = some (cellOf W ⟨w.heap.size + 1, 0, none⟩) ∧ W.cell? ⟨w.heap.size + 1, 1, none⟩ = some (cellOf W ⟨w.heap.size + 1, 1, none⟩) ∧ W.frozen? ⟨w.heap.size + 1, 0, none⟩ = false ∧ W.frozen? ⟨w.heap.size + 1, 1, none⟩ = false) → HR w n d W := fun W h => h.1.out
  have KK := Lib.hid kk; have GG := Lib.hid gg
  clear kk gg
  obtain ⟨a3, a4, a5, a6, a7, a8⟩ := (KK.out _ h0).2
  have cG := gcd_any n d ((w.alloc (.cells #[.string n, .string d] 23)).alloc (.cells #[.string ⟨#[]⟩, .string ⟨#[]⟩] 23)) (ht.below h0.1)
  rw [← gcdT, ← gcdE] at cG
  obtain ⟨S, hS⟩ : ∃ S, S = lowF n d := ⟨_, rfl⟩
  rw [← hS]
  obtain ⟨G, hG⟩ : ∃ G, G = gcdT n d := ⟨_, rfl⟩
  obtain ⟨X, hX⟩ : ∃ X, X = gcdE n d := ⟨_, rfl⟩
  have hS2 : S = if X = 0 then runF [numF divQ divE G, denF divQ divE G] n d 0 else (n, d, X) := by rw [hS, hX, hG]; rfl
  rw [← hG, ← hX] at cG
  have cF := fun (W : World) (g c : Nat) (v1 v2 : Value) (hr : Row W g 79 #[v1, v2]) (q1 : StepIs W v1 (numF divQ divE G)) (q2 : StepIs W v2 (denF divQ divE G)) => follow_two (c := c) n d hr q1 q2
  have CG := Lib.hid cG; have H0 := Lib.hid h0; have T0 := Lib.hid ht
  have CN := Lib.hid (fun W (h : Tab W) => numerator_is op_quot G W h); have CD := Lib.hid (fun W (h : Tab W) => denominator_is op_quot G W h)
  clear h0 ht hS hX hG cG
  by_cases h1 : X = 0
  · subst h1
    rw [if_pos rfl] at hS2
    rw [← hS2] at cF
    have CF := Lib.hid cF
    clear cF hS2
    go_enter Tryz.func87, Tryz.ntmps87
    go_wp2_with (first
      | (go_at_call 60; (with_reducible refine CG.out.mono ?_); rintro e w2 ⟨rfl, hb2⟩; have H2 := HR.step H0.out hb2; obtain ⟨c3, c4, c5, c6, c7, c8⟩ := (KK.out _ H2).2)
      | fail)
    have H1 := Lib.hid H2
    clear c3 c4 c5 c6 c7 c8 H0 H2
    have H0 := H1; clear H1
    go_region_held3 (fun W => Hid (HR w n d W) ∧ W.cell? ⟨w.heap.size, 0, none⟩ = some (.string n) ∧ W.cell? ⟨w.heap.size, 1, none⟩ = some (.string d) ∧ W.cell? ⟨w.heap.size + 1, 0, none⟩ = some (cellOf W ⟨w.heap.size + 1, 0, none⟩) ∧ W.cell? ⟨w.heap.size + 1, 1, none⟩ = some (cellOf W ⟨w.heap.size + 1, 1, none⟩) ∧ W.frozen? ⟨w.heap.size + 1, 0, none⟩ = false ∧ W.frozen? ⟨w.heap.size + 1, 1, none⟩ = false)
      (first | assumption | exact KK.out _ H0.out.drew | exact KK.out _ (HR.step (GG.out _ (by assumption)) (by assumption)) | exact KK.out _ (HR.step (GG.out _ (by assumption)) (below_alloc _ _)) | exact KK.out _ (HR.put (GG.out _ (by assumption)) _ _))
      (first
        | (go_at_call 96; ((refine (CN.out _ (T0.out.below (GG.out _ (by assumption)).1)).mono ?_); rintro e w6 ⟨v1, rfl, s1, b6⟩; obtain ⟨f1, x1, rfl⟩ := s1.shape))
        | (go_at_call 98; ((refine (CD.out _ (T0.out.below (GG.out _ (by assumption)).1)).mono ?_); rintro e w7 ⟨v2, rfl, s2, b7⟩; obtain ⟨f2, x2, rfl⟩ := s2.shape))
        | (go_at_call 85; ((refine (CF.out _ _ _ _ _ (Row.made _ _ _) ((s1.below b7).below (below_alloc _ _)) (s2.below (below_alloc _ _))).mono ?_); rintro e w8 ⟨rfl, b8⟩)))
    all_goals go_wp2
    have B8 : HR w n d w8 := HR.step (HR.step (HR.step (HR.step H0.out.drew b6) b7) (below_alloc _ _)) b8
    (try simp only [Exit.inBlock, Exit.then])
    refine bodyPost_ret (res_rt rfl rfl (rat_put B8.2.2 _ _)) rfl ?_
    exact ⟨rfl, (B8.put _ _).1⟩
  · rw [if_neg h1] at hS2
    subst hS2
    clear cF
    go_enter Tryz.func87, Tryz.ntmps87
    go_wp2_with (first
      | (go_at_call 60; (with_reducible refine CG.out.mono ?_); rintro e w2 ⟨rfl, hb2⟩; have H2 := HR.step H0.out hb2; obtain ⟨c3, c4, c5, c6, c7, c8⟩ := (KK.out _ H2).2)
      | fail)
    (try simp only [Exit.inBlock, Exit.then])
    refine bodyPost_ret (res_rt rfl rfl (rat_put H2.2.2 _ _)) rfl ?_
    exact ⟨rfl, (H2.put _ _).1⟩
end Go.Proofs.YtgpncnnlhhmjaaaGreatDoor
