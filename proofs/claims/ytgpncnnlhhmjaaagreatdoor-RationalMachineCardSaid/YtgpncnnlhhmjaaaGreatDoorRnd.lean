/- round, Down, Up; Make, Of; Print; strings.Cut, Parse. -/
import Derived.Test.YtgpncnnlhhmjaaaGreatDoorJoin
import Derived.Test.YtgpncnnlhhmjaaaGreatDoorShelf2
namespace Go.Proofs.YtgpncnnlhhmjaaaGreatDoor
open Go.RowKit

theorem zeros_list (k : Nat) : Lib.repeatL [48] k = List.replicate k 48 := by
  induction k with
  | zero => rfl
  | succ k ih => rw [Lib.repeatL, ih]; rfl
theorem dec10 : ∀ k : Nat, Lib.decDigits (10 ^ k) = 49 :: List.replicate k 48
  | 0 => by rw [Nat.pow_zero, decDigits_small (by decide)]; rfl
  | k + 1 => by
    have h10 : 10 ≤ 10 ^ (k + 1) := Nat.le_trans (by decide) (Nat.pow_le_pow_right (n := 10) (by decide) (show 1 ≤ k + 1 by omega))
    have e1 : 10 ^ (k + 1) / 10 = 10 ^ k := by rw [Nat.pow_succ, Nat.mul_div_cancel _ (by decide)]
    have e2 : 10 ^ (k + 1) % 10 = 0 := by rw [Nat.pow_succ, Nat.mul_mod_left]
    rw [decDigits_big h10, e1, e2, dec10 k, List.replicate_succ']
    rfl
theorem tens_text (k : Nat) : (⟨#[49]⟩ : ByteArray) ++ ⟨(Lib.repeatL [48] k).toArray⟩ = dec ((10 ^ k : Nat) : Int) := by
  rw [dec_nat, dec10, zeros_list]
  apply ByteArray.ext
  rw [ByteArray.data_append]
  show #[49] ++ (List.replicate k (48 : UInt8)).toArray = (49 :: List.replicate k (48 : UInt8)).toArray
  simp

set_option maxRecDepth 100000 in
set_option maxHeartbeats 8000000 in
theorem round_in (n d M : ByteArray) (m p : Int) (h0 : 0 ≤ p) (h1 : p ≤ 30) (hm : m = 0 ∨ m = 1) (hM : M = dec m) (w : World) (ht : Tab w) :
    Calls Tryz.prog 55 #[rv n d, .int .i64 p, .string M] w fun e w' => e = .returned (ov (roundO m p (readR n d))) ∧ Below w.heap.size w w' := by
  have hs := hr_start w n d
  have kk : ∀ W, HR w n d W → (Hid (HR w n d W) ∧ W.cell? ⟨w.heap.size, 0, none⟩ = some (.string n) ∧ W.cell? ⟨w.heap.size, 1, none⟩ = some (.string d) ∧ W.cell? ⟨w.heap.size + 1, 0, none⟩ = some (cellOf W ⟨w.heap.size + 1, 0, none⟩) ∧ W.cell? ⟨w.heap.size + 1, 1, none⟩ = some (cellOf W ⟨w.heap.size + 1, 1, none⟩) ∧ W.frozen? ⟨w.heap.size + 1, 0, none⟩ = false ∧ W.frozen? ⟨w.heap.size + 1, 1, none⟩ = false) := fun W h => ⟨Lib.hid h, h.eqs⟩
  have gg : ∀ W, (Hid (HR w n d W) ∧ W.cell? ⟨w.heap.size, 0, none⟩ = some (.string n) ∧ W.cell? ⟨w.heap.size, 1, none⟩ = some (.string d) ∧ W.cell? ⟨w.heap.size + 1, 0, none⟩ = some (cellOf W ⟨w.heap.size + 1, 0, none⟩) ∧ W.cell? ⟨w.heap.size + 1, 1, none⟩ = some (cellOf W ⟨w.heap.size + 1, 1, none⟩) ∧ W.frozen? ⟨w.heap.size + 1, 0, none⟩ = false ∧ W.frozen? ⟨w.heap.size + 1, 1, none⟩ = false) → HR w n d W := fun W h => h.1.out
  have KK := Lib.hid kk; have GG := Lib.hid gg
  clear kk gg
  obtain ⟨a3, a4, a5, a6, a7, a8⟩ := hs.eqs
  have cB := fun (W : World) (g c : Nat) (v1 v2 v3 : Value) (h : Tab W) (hr : Row W g 79 #[v1, v2, v3]) (q1 : StepIs W v1 (acceptF [(n, d)])) (q2 : StepIs W v2 (scaleF (dec (10 ^ p.toNat : Nat)) ⟨#[49]⟩)) (q3 : StepIs W v3 (cutF (dec (10 ^ p.toNat : Nat)) M)) => build_three (c := c) n d h hr q1 q2 q3
  rw [hM, round_chain n d p h0 h1 m hm, ← hM] at cB
  obtain ⟨k, hk⟩ : ∃ k : Nat, k = p.toNat := ⟨_, rfl⟩
  have cR := Tryz.strings_Repeat ⟨#[48]⟩ k ((w.alloc (.cells #[.string n, .string d] 23)).alloc (.cells #[.string ⟨#[]⟩, .string ⟨#[]⟩] 23)) (by omega) (by show 1 * k ≤ _; omega)
  have ekp : (k : Int) = p := by omega
  rw [ekp] at cR
  obtain ⟨Z, hZ⟩ : ∃ Z : ByteArray, Z = ⟨(Lib.repeatL (⟨#[48]⟩ : ByteArray).data.toList k).toArray⟩ := ⟨_, rfl⟩
  obtain ⟨Y, hY⟩ : ∃ Y : ByteArray, Y = dec (10 ^ p.toNat : Nat) := ⟨_, rfl⟩
  have hcat : (⟨#[49]⟩ : ByteArray) ++ Z = Y := by rw [hZ, hY, ← hk]; exact tens_text k
  have hzs : Z.size ≤ 30 := by
    have : Z.size = k := by
      rw [hZ]
      show (Lib.repeatL [48] k).toArray.size = k
      rw [zeros_list]; simp
    omega
  rw [← hZ] at cR
  rw [← hY] at cB
  obtain ⟨o, ho⟩ : ∃ o, o = roundO m p (readR n d) := ⟨_, rfl⟩
  rw [← ho] at cB ⊢
  obtain ⟨x, hx⟩ : ∃ x, x = qtN o := ⟨_, rfl⟩
  obtain ⟨y, hy⟩ : ∃ y, y = qtD o := ⟨_, rfl⟩
  obtain ⟨z, hz⟩ : ∃ z, z = qtE o := ⟨_, rfl⟩
  unfold ov at cB ⊢
  rw [← hx, ← hy, ← hz] at cB ⊢
  clear hx hy hz ho hZ hY hk ekp
  have CB := Lib.hid cB; have H0 := Lib.hid hs; have T0 := Lib.hid ht; have CR := Lib.hid cR
  have CA := Lib.hid (fun W (g c : Nat) (h : Tab W) (hr : Row W g 23 #[.string n, .string d]) => accept_one n d g c W h hr)
  have CS := Lib.hid (fun W (h : Tab W) => scale_is Y ⟨#[49]⟩ W h); have CI := Lib.hid (fun W (h : Tab W) => cut_is Y M W h)
  clear hs ht cB cR hM hm
  have np : ¬ p < 0 := by omega
  have np2 : ¬ 30 < p := by omega
  go_enter Tryz.func55, Tryz.ntmps55
  go_wp2_with (first
    | (go_at_call 82; (refine CR.out.mono ?_); rintro e w2 ⟨rfl, hb2⟩; have H2 := HR.step H0.out hb2; have H1 := Lib.hid H2; clear H2)
    | fail)
  clear H0
  have H0 := H1; clear H1
  go_region_held3 (fun W => Hid (HR w n d W) ∧ W.cell? ⟨w.heap.size, 0, none⟩ = some (.string n) ∧ W.cell? ⟨w.heap.size, 1, none⟩ = some (.string d) ∧ W.cell? ⟨w.heap.size + 1, 0, none⟩ = some (cellOf W ⟨w.heap.size + 1, 0, none⟩) ∧ W.cell? ⟨w.heap.size + 1, 1, none⟩ = some (cellOf W ⟨w.heap.size + 1, 1, none⟩) ∧ W.frozen? ⟨w.heap.size + 1, 0, none⟩ = false ∧ W.frozen? ⟨w.heap.size + 1, 1, none⟩ = false)
    (first | assumption | exact KK.out _ H0.out.drew | exact KK.out _ (HR.step (GG.out _ (by assumption)) (by assumption)) | exact KK.out _ (HR.step (GG.out _ (by assumption)) (below_alloc _ _)) | exact KK.out _ (HR.put (GG.out _ (by assumption)) _ _))
    (first
      | (go_at_call 65; ((refine (CA.out _ _ _ (T0.out.below (HR.b (GG.out _ (by assumption)))) (Row.drawn (Row.made _ _ _))).mono ?_); rintro e w6 ⟨v1, rfl, s1, b6⟩; obtain ⟨f1, x1, rfl⟩ := s1.shape))
      | (go_at_call 66; ((refine (CS.out _ (T0.out.below (HR.b (GG.out _ (by assumption))))).mono ?_); rintro e w7 ⟨v2, rfl, s2, b7⟩; obtain ⟨f2, x2, rfl⟩ := s2.shape))
      | (go_at_call 83; ((refine (CI.out _ (T0.out.below (HR.b (GG.out _ (by assumption))))).mono ?_); rintro e w8 ⟨v3, rfl, s3, b8⟩; obtain ⟨f3, x3, rfl⟩ := s3.shape))
      | (go_at_call 57; ((refine (CB.out _ _ _ _ _ _ (T0.out.below (HR.b (GG.out _ (by assumption)))) (Row.made _ _ _) (((s1.below b7).below b8).below (below_alloc _ _)) ((s2.below b8).below (below_alloc _ _)) (s3.below (below_alloc _ _))).mono ?_); rintro e w9 ⟨rfl, b9⟩)))
  all_goals go_wp2
  have B9 : HR w n d w9 := HR.step (HR.step (HR.step (HR.step (HR.step (HR.drew (HR.step H0.out (below_alloc _ _))) b6) b7) b8) (below_alloc _ _)) b9
  (try simp only [Exit.inBlock, Exit.then])
  refine bodyPost_ret (res_rt rfl rfl (rat_put B9.res _ _)) rfl ?_
  exact ⟨rfl, (B9.put _ _).b⟩
set_option maxRecDepth 100000 in
set_option maxHeartbeats 8000000 in
theorem round_out (n d M : ByteArray) (p : Int) (hp : p < 0 ∨ 30 < p) (w : World) :
    Calls Tryz.prog 55 #[rv n d, .int .i64 p, .string M] w fun e w' => e = .returned (ov none) ∧ Below w.heap.size w w' := by
  have hs := hr_start w n d
  obtain ⟨a3, a4, a5, a6, a7, a8⟩ := hs.eqs
  show Calls Tryz.prog 55 #[rv n d, .int .i64 p, .string M] w fun e w' => e = .returned (.tuple #[.agg #[.string ⟨#[]⟩, .string ⟨#[]⟩], .int .i64 40]) ∧ Below w.heap.size w w'
  by_cases h : p < 0
  · have H0 := Lib.hid hs
    clear hs
    go_enter Tryz.func55, Tryz.ntmps55
    go_wp2
    (try simp only [Exit.inBlock, Exit.then])
    refine bodyPost_ret (res_rt rfl rfl (Row.made_at _ _ _ (by simp))) rfl ?_
    exact ⟨rfl, keep_alloc (below_alloc w _) _⟩
  · have h2 : 30 < p := by omega
    go_enter Tryz.func55, Tryz.ntmps55
    go_wp2
    (try simp only [Exit.inBlock, Exit.then])
    refine bodyPost_ret (res_rt rfl rfl (Row.made_at _ _ _ (by simp))) rfl ?_
    exact ⟨rfl, keep_alloc (below_alloc w _) _⟩
theorem round_zero (m p : Int) (hp : p < 0 ∨ 30 < p) (o : Option Rat) : roundO m p o = none := by
  have h : (decide (0 ≤ p) && decide (p ≤ 30)) = false := by
    rcases hp with h | h
    · rw [decide_eq_false (by omega)]; rfl
    · rw [decide_eq_false (show ¬ p ≤ 30 by omega), Bool.and_false]
  unfold roundO
  split
  · cases o with
    | none => rfl
    | some q => rw [downO, h]; rfl
  · cases o with
    | none => rfl
    | some q => rw [upO, h]; rfl
theorem round_any (n d M : ByteArray) (m p : Int) (hm : m = 0 ∨ m = 1) (hM : M = dec m) (w : World) (ht : Tab w) :
    Calls Tryz.prog 55 #[rv n d, .int .i64 p, .string M] w fun e w' => e = .returned (ov (roundO m p (readR n d))) ∧ Below w.heap.size w w' := by
  by_cases h : p < 0 ∨ 30 < p
  · rw [round_zero m p h]; exact round_out n d M p h w
  · exact round_in n d M m p (by omega) (by omega) hm hM w ht
set_option maxRecDepth 100000 in
set_option maxHeartbeats 8000000 in
theorem down_of (n d : ByteArray) (p : Int) (w : World) (ht : Tab w) :
    Calls Tryz.prog 23 #[rv n d, .int .i64 p] w fun e w' => e = .returned (ov (downO p (readR n d))) ∧ Below w.heap.size w w' := by
  have h0 := hr_start w n d
  obtain ⟨a3, a4, a5, a6, a7, a8⟩ := h0.eqs
  have cJ := round_any n d _ 0 p (by simp) l0 _ (ht.below h0.b)
  have er : roundO 0 p (readR n d) = downO p (readR n d) := rfl
  rw [er] at cJ
  obtain ⟨o, ho⟩ : ∃ o, o = downO p (readR n d) := ⟨_, rfl⟩
  rw [← ho] at cJ ⊢
  obtain ⟨x, hx⟩ : ∃ x, x = qtN o := ⟨_, rfl⟩
  obtain ⟨y, hy⟩ : ∃ y, y = qtD o := ⟨_, rfl⟩
  obtain ⟨z, hz⟩ : ∃ z, z = qtE o := ⟨_, rfl⟩
  unfold ov at cJ ⊢
  rw [← hx, ← hy, ← hz] at cJ ⊢
  clear hx hy hz ho er
  have CJ := Lib.hid cJ; have H0 := Lib.hid h0
  clear h0 ht cJ
  go_enter Tryz.func23, Tryz.ntmps23
  go_wp2_with (first
    | (go_at_call 55; (with_reducible refine CJ.out.mono ?_); rintro e w2 ⟨rfl, hb2⟩; have H2 := HR.step H0.out hb2; obtain ⟨c3, c4, c5, c6, c7, c8⟩ := H2.eqs)
    | fail)
  (try simp only [Exit.inBlock, Exit.then])
  refine bodyPost_ret (res_rt rfl rfl (rat_put H2.res _ _)) rfl ?_
  exact ⟨rfl, (H2.put _ _).b⟩
set_option maxRecDepth 100000 in
set_option maxHeartbeats 8000000 in
theorem up_of (n d : ByteArray) (p : Int) (w : World) (ht : Tab w) :
    Calls Tryz.prog 25 #[rv n d, .int .i64 p] w fun e w' => e = .returned (ov (upO p (readR n d))) ∧ Below w.heap.size w w' := by
  have h0 := hr_start w n d
  obtain ⟨a3, a4, a5, a6, a7, a8⟩ := h0.eqs
  have cJ := round_any n d _ 1 p (by simp) l1 _ (ht.below h0.b)
  have er : roundO 1 p (readR n d) = upO p (readR n d) := rfl
  rw [er] at cJ
  obtain ⟨o, ho⟩ : ∃ o, o = upO p (readR n d) := ⟨_, rfl⟩
  rw [← ho] at cJ ⊢
  obtain ⟨x, hx⟩ : ∃ x, x = qtN o := ⟨_, rfl⟩
  obtain ⟨y, hy⟩ : ∃ y, y = qtD o := ⟨_, rfl⟩
  obtain ⟨z, hz⟩ : ∃ z, z = qtE o := ⟨_, rfl⟩
  unfold ov at cJ ⊢
  rw [← hx, ← hy, ← hz] at cJ ⊢
  clear hx hy hz ho er
  have CJ := Lib.hid cJ; have H0 := Lib.hid h0
  clear h0 ht cJ
  go_enter Tryz.func25, Tryz.ntmps25
  go_wp2_with (first
    | (go_at_call 55; (with_reducible refine CJ.out.mono ?_); rintro e w2 ⟨rfl, hb2⟩; have H2 := HR.step H0.out hb2; obtain ⟨c3, c4, c5, c6, c7, c8⟩ := H2.eqs)
    | fail)
  (try simp only [Exit.inBlock, Exit.then])
  refine bodyPost_ret (res_rt rfl rfl (rat_put H2.res _ _)) rfl ?_
  exact ⟨rfl, (H2.put _ _).b⟩
set_option maxRecDepth 100000 in
set_option maxHeartbeats 8000000 in
theorem make_of (n d : ByteArray) (w : World) (ht : Tab w) :
    Calls Tryz.prog 27 #[.string n, .string d] w fun e w' => e = .returned (ov (makeR n d)) ∧ Below w.heap.size w w' := by
  have cJ := build_none n d _ (ht.below (below_alloc w (.cells #[.string ⟨#[]⟩, .string ⟨#[]⟩] 23)))
  obtain ⟨o, ho⟩ : ∃ o, o = makeR n d := ⟨_, rfl⟩
  rw [← ho] at cJ ⊢
  obtain ⟨x, hx⟩ : ∃ x, x = qtN o := ⟨_, rfl⟩
  obtain ⟨y, hy⟩ : ∃ y, y = qtD o := ⟨_, rfl⟩
  obtain ⟨z, hz⟩ : ∃ z, z = qtE o := ⟨_, rfl⟩
  unfold ov at cJ ⊢
  rw [← hx, ← hy, ← hz] at cJ ⊢
  clear hx hy hz ho
  have CJ := Lib.hid cJ
  clear ht cJ
  go_enter Tryz.func27, Tryz.ntmps27
  go_wp2_with (first
    | (go_at_call 57; (with_reducible refine CJ.out.mono ?_); rintro e w2 ⟨rfl, hb2⟩; have R2 := Row.over (Row.made w 23 #[.string ⟨#[]⟩, .string ⟨#[]⟩]) hb2; obtain ⟨c3, c4, c5, c6⟩ := two_cells R2)
    | fail)
  (try simp only [Exit.inBlock, Exit.then])
  refine bodyPost_ret (res_rt rfl rfl (rat_put ⟨_, _, R2⟩ _ _)) rfl ?_
  exact ⟨rfl, below_put (below_step (below_alloc w _) hb2) (Nat.le_refl _) _ _⟩
set_option maxRecDepth 100000 in
set_option maxHeartbeats 8000000 in
theorem of_of (a b : Int) (a0 : -9223372036854775808 ≤ a) (a1 : a ≤ 9223372036854775807) (b0 : -9223372036854775808 ≤ b) (b1 : b ≤ 9223372036854775807) (w : World) (ht : Tab w) :
    Calls Tryz.prog 31 #[.int .i64 a, .int .i64 b] w fun e w' => e = .returned (ov (makeR (dec a) (dec b))) ∧ Below w.heap.size w w' := by
  have T1 := ht.below (below_alloc w (.cells #[.string ⟨#[]⟩, .string ⟨#[]⟩] 23))
  have cM := fun W (h : Tab W) => make_of (dec a) (dec b) W h
  have cA := fun W (h : Tab W) => FromInt_any a a0 a1 W h
  have cB := fun W (h : Tab W) => FromInt_any b b0 b1 W h
  obtain ⟨o, ho⟩ : ∃ o, o = makeR (dec a) (dec b) := ⟨_, rfl⟩
  rw [← ho] at cM ⊢
  obtain ⟨x, hx⟩ : ∃ x, x = qtN o := ⟨_, rfl⟩
  obtain ⟨y, hy⟩ : ∃ y, y = qtD o := ⟨_, rfl⟩
  obtain ⟨z, hz⟩ : ∃ z, z = qtE o := ⟨_, rfl⟩
  unfold ov at cM ⊢
  rw [← hx, ← hy, ← hz] at cM ⊢
  obtain ⟨A, hA⟩ : ∃ A, A = dec a := ⟨_, rfl⟩
  obtain ⟨B, hB⟩ : ∃ B, B = dec b := ⟨_, rfl⟩
  rw [← hA] at cA cM
  rw [← hB] at cB cM
  clear hx hy hz ho hA hB ht
  have CM := Lib.hid cM; have CA := Lib.hid cA; have CB := Lib.hid cB; have T := Lib.hid T1
  clear cM cA cB T1 a0 a1 b0 b1
  go_enter Tryz.func31, Tryz.ntmps31
  go_wp2_with (first
    | (go_at_call 61; (with_reducible refine (CA.out _ T.out).mono ?_); rintro e w2 ⟨rfl, hb2⟩; have T2 := Lib.hid (T.out.below hb2))
    | (go_at_call 61; (with_reducible refine (CB.out _ T2.out).mono ?_); rintro e w3 ⟨rfl, hb3⟩; have T3 := Lib.hid (T2.out.below hb3))
    | (go_at_call 27; (with_reducible refine (CM.out _ T3.out).mono ?_); rintro e w4 ⟨rfl, hb4⟩; have R2 := Row.over (Row.over (Row.over (Row.made w 23 #[.string ⟨#[]⟩, .string ⟨#[]⟩]) hb2) hb3) hb4; obtain ⟨c3, c4, c5, c6⟩ := two_cells R2)
    | fail)
  (try simp only [Exit.inBlock, Exit.then])
  refine bodyPost_ret (res_rt rfl rfl (rat_put ⟨_, _, R2⟩ _ _)) rfl ?_
  exact ⟨rfl, below_put (below_step (below_step (below_step (below_alloc w _) hb2) hb3) hb4) (Nat.le_refl _) _ _⟩
theorem valid_size {s : ByteArray} (h : validB s.data.toList = true) : s.size ≤ 201 := by
  have h1 := (mag_facts s h).2.2.1
  have h2 : (magB s).size = (mag s.data.toList).length := rfl
  have h3 : s.data.toList.length ≤ (mag s.data.toList).length + 1 := by
    unfold mag
    split
    · rw [List.length_tail]; omega
    · omega
  rw [size_list]
  omega
set_option maxRecDepth 100000 in
set_option maxHeartbeats 8000000 in
theorem print_of (n d : ByteArray) (w : World) (ht : Tab w) :
    Calls Tryz.prog 33 #[rv n d] w fun e w' => e = .returned (.string (prO (readR n d))) ∧ Below w.heap.size w w' := by
  have cV := valid_rat n d _ (ht.below (below_alloc w (.cells #[.string n, .string d] 23)))
  obtain ⟨a0, a1, _, _⟩ := two_cells (Row.made w 23 #[.string n, .string d])
  cases hv : validR n d with
  | false =>
    rw [hv] at cV
    rw [read_none hv]
    show Calls Tryz.prog 33 #[rv n d] w fun e w' => e = .returned (.string ⟨#[]⟩) ∧ Below w.heap.size w w'
    have CV := Lib.hid cV
    clear cV ht hv
    go_enter Tryz.func33, Tryz.ntmps33
    go_wp2_with (first
      | (go_at_call 29; (with_reducible refine CV.out.mono ?_); rintro e w2 ⟨rfl, hb2⟩)
      | fail)
    go_ret
    exact ⟨rfl, below_step (below_alloc w _) hb2⟩
  | true =>
    rw [hv] at cV
    obtain ⟨q, r1, e1, e2, o1⟩ := read_is hv
    obtain ⟨f1, f2⟩ := okQ_iff.1 o1
    have sn : n.size ≤ 201 := valid_size (by rw [e1, valid_dec, f1])
    have sd : d.size ≤ 201 := valid_size (by rw [e2, valid_dec, f2])
    have CV := Lib.hid cV
    by_cases hq : q.den = 1
    · have hd : d = ⟨#[49]⟩ := by rw [e2, hq, one_text]; rfl
      have hp : prO (readR n d) = n := by rw [r1, prO, if_pos hq, e1]
      rw [hp]
      clear cV ht hv r1 e1 e2 o1 f1 f2 hq hp
      subst hd
      go_enter Tryz.func33, Tryz.ntmps33
      go_wp2_with (first
        | (go_at_call 29; (with_reducible refine CV.out.mono ?_); rintro e w2 ⟨rfl, hb2⟩; obtain ⟨c0, c1, _, _⟩ := two_cells (Row.over (Row.made w 23 #[.string n, .string ⟨#[49]⟩]) hb2))
        | fail)
      go_ret
      exact ⟨rfl, below_step (below_alloc w _) hb2⟩
    · have hd : ¬ d = ⟨#[49]⟩ := by
        rw [e2, one_text]; intro h; have := dec_inj h; omega
      have e0 := ne_one hd
      have hp : prO (readR n d) = n ++ ⟨#[47]⟩ ++ d := by rw [r1, prO, if_neg hq, e1, e2]
      obtain ⟨X, hX⟩ : ∃ X, X = n ++ (⟨#[47]⟩ : ByteArray) := ⟨_, rfl⟩
      obtain ⟨Y, hY⟩ : ∃ Y, Y = X ++ d := ⟨_, rfl⟩
      have sX : X.size ≤ 202 := by rw [hX, ByteArray.size_append]; show n.size + 1 ≤ 202; omega
      rw [hp, ← hX, ← hY]
      have hX2 := hX.symm
      have hY2 := hY.symm
      clear cV ht hv r1 e1 e2 o1 f1 f2 hq hp hX hY
      go_enter Tryz.func33, Tryz.ntmps33
      go_wp2_with (first
        | (go_at_call 29; (with_reducible refine CV.out.mono ?_); rintro e w2 ⟨rfl, hb2⟩; obtain ⟨c0, c1, _, _⟩ := two_cells (Row.over (Row.made w 23 #[.string n, .string d]) hb2))
        | fail)
      go_ret
      exact ⟨rfl, below_step (below_alloc w _) hb2⟩
end Go.Proofs.YtgpncnnlhhmjaaaGreatDoor
