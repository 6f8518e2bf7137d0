/- join, Add, Sub, Mul, Div, round, Down, Up. -/
import Derived.Test.YtgpncnnlhhmjaaaGreatDoorBld
namespace Go.Proofs.YtgpncnnlhhmjaaaGreatDoor
open Go.RowKit

theorem include_is {V : Value} {T : ByteArray → ByteArray → ByteArray} {E : ByteArray → ByteArray → Int} (hV : OpIs V T E) (x y : ByteArray) (w : World) (ht : Tab w) :
    Calls Tryz.prog 92 #[V, .string x, .string y] w fun e w' => ∃ v, e = .returned v ∧ StepIs w' v (includeF T E x y) ∧ Below w.heap.size w w' := by
  have hV2 := hV
  obtain ⟨k, rfl, he, hc⟩ := hV
  refine (include_raw k x y w).mono ?_
  rintro e w' ⟨rfl, rfl⟩
  have hb : Below w.heap.size w (((w.alloc (.cells #[.func (.func k) #[] #[]] 106)).alloc (.cells #[.string x] 9)).alloc (.cells #[.string y] 9)) := keep_alloc (keep_alloc (below_alloc w _) _) _
  refine ⟨_, rfl, ⟨_, _, rfl, enters_of Tryz.func119 (by kernel_rfl) rfl, fun W hW n d => ?_⟩, hb⟩
  have r1 : Row (((w.alloc (.cells #[.func (.func k) #[] #[]] 106)).alloc (.cells #[.string x] 9)).alloc (.cells #[.string y] 9)) w.heap.size 106 #[.func (.func k) #[] #[]] := ((Row.made w _ _).later _).later _
  have r2 : Row (((w.alloc (.cells #[.func (.func k) #[] #[]] 106)).alloc (.cells #[.string x] 9)).alloc (.cells #[.string y] 9)) (w.heap.size + 1) 9 #[.string x] := (Row.made_at _ _ _ (by simp)).later _
  have r3 : Row (((w.alloc (.cells #[.func (.func k) #[] #[]] 106)).alloc (.cells #[.string x] 9)).alloc (.cells #[.string y] 9)) (w.heap.size + 1 + 1) 9 #[.string y] := Row.made_at _ _ _ (by simp)
  have q1 := Row.over r1 hW
  have q2 := Row.over r2 hW
  have q3 := Row.over r3 hW
  exact include_step _ _ _ k x y n d W ((ht.below hb).below hW) (q2.at rfl) (q3.at rfl) (q1.at rfl) q2.inside q3.inside q1.inside hV2
theorem cut_is (t m : ByteArray) (w : World) (ht : Tab w) :
    Calls Tryz.prog 83 #[.string t, .string m] w fun e w' => ∃ v, e = .returned v ∧ StepIs w' v (cutF t m) ∧ Below w.heap.size w w' := by
  refine (cut_raw t m w).mono ?_
  rintro e w' ⟨rfl, rfl⟩
  have hb : Below w.heap.size w ((w.alloc (.cells #[.string t] 9)).alloc (.cells #[.string m] 9)) := keep_alloc (below_alloc w _) _
  refine ⟨_, rfl, ⟨_, _, rfl, enters_of Tryz.func114 (by kernel_rfl) rfl, fun W hW n d => ?_⟩, hb⟩
  have r1 : Row ((w.alloc (.cells #[.string t] 9)).alloc (.cells #[.string m] 9)) w.heap.size 9 #[.string t] := (Row.made w _ _).later _
  have r2 : Row ((w.alloc (.cells #[.string t] 9)).alloc (.cells #[.string m] 9)) (w.heap.size + 1) 9 #[.string m] := Row.made_at _ _ _ (by simp)
  have q1 := Row.over r1 hW
  have q2 := Row.over r2 hW
  exact cut_step _ _ m t n d W ((ht.below hb).below hW) (q2.at rfl) (q1.at rfl) q2.inside q1.inside
theorem three_steps {w : World} {g : Nat} {v1 v2 v3 : Value} {F1 F2 F3 : Stp} (hr : Row w g 79 #[v1, v2, v3]) (h1 : StepIs w v1 F1) (h2 : StepIs w v2 F2) (h3 : StepIs w v3 F3) : StepsAt w g [(v1, F1), (v2, F2), (v3, F3)] := by
  refine ⟨hr.inside, ?_, ?_⟩
  · intro i v F hi
    match i, hi with
    | 0, hi => obtain ⟨rfl, rfl⟩ : v1 = v ∧ F1 = F := by simpa using hi
               exact hr.at rfl
    | 1, hi => obtain ⟨rfl, rfl⟩ : v2 = v ∧ F2 = F := by simpa using hi
               exact hr.at rfl
    | 2, hi => obtain ⟨rfl, rfl⟩ : v3 = v ∧ F3 = F := by simpa using hi
               exact hr.at rfl
    | i + 3, hi => simp at hi
  · intro x hx
    rcases List.mem_cons.1 hx with h | h
    · subst h; exact h1
    · rcases List.mem_cons.1 h with h | h
      · subst h; exact h2
      · rcases List.mem_cons.1 h with h | h
        · subst h; exact h3
        · cases h
theorem build_three {w : World} {g c : Nat} {v1 v2 v3 : Value} {F1 F2 F3 : Stp} (n d : ByteArray) (ht : Tab w) (hr : Row w g 79 #[v1, v2, v3]) (h1 : StepIs w v1 F1) (h2 : StepIs w v2 F2) (h3 : StepIs w v3 F3) :
    Calls Tryz.prog 57 #[rv n d, .slice (some ⟨g, 0, none⟩) 3 c] w fun e w' => e = .returned (ov (buildO [F1, F2, F3] n d)) ∧ Below w.heap.size w w' :=
  build_any [(v1, F1), (v2, F2), (v3, F3)] (by simp) g c n d w ht (three_steps hr h1 h2 h3)
theorem build_two {w : World} {g c : Nat} {v1 v2 : Value} {F1 F2 : Stp} (n d : ByteArray) (ht : Tab w) (hr : Row w g 79 #[v1, v2]) (h1 : StepIs w v1 F1) (h2 : StepIs w v2 F2) :
    Calls Tryz.prog 57 #[rv n d, .slice (some ⟨g, 0, none⟩) 2 c] w fun e w' => e = .returned (ov (buildO [F1, F2] n d)) ∧ Below w.heap.size w w' :=
  build_any [(v1, F1), (v2, F2)] (by simp) g c n d w ht (two_steps hr h1 h2)
theorem accept_two (n1 d1 n2 d2 : ByteArray) (g c : Nat) (w : World) (ht : Tab w) (hr : Row w g 23 #[.string n1, .string d1, .string n2, .string d2]) :
    Calls Tryz.prog 65 #[.slice (some ⟨g, 0, none⟩) 2 c] w fun e w' => ∃ v, e = .returned v ∧ StepIs w' v (acceptF [(n1, d1), (n2, d2)]) ∧ Below w.heap.size w w' :=
  accept_is [(n1, d1), (n2, d2)] (by simp) g c w ht ⟨hr.inside, fun i n d hi => by
    match i, hi with
    | 0, hi => obtain ⟨rfl, rfl⟩ : n1 = n ∧ d1 = d := by simpa using hi
               exact ⟨hr.at rfl, hr.at rfl⟩
    | 1, hi => obtain ⟨rfl, rfl⟩ : n2 = n ∧ d2 = d := by simpa using hi
               exact ⟨hr.at rfl, hr.at rfl⟩
    | i + 2, hi => simp at hi⟩
theorem accept_one (n1 d1 : ByteArray) (g c : Nat) (w : World) (ht : Tab w) (hr : Row w g 23 #[.string n1, .string d1]) :
    Calls Tryz.prog 65 #[.slice (some ⟨g, 0, none⟩) 1 c] w fun e w' => ∃ v, e = .returned v ∧ StepIs w' v (acceptF [(n1, d1)]) ∧ Below w.heap.size w w' :=
  accept_is [(n1, d1)] (by simp) g c w ht ⟨hr.inside, fun i n d hi => by
    match i, hi with
    | 0, hi => obtain ⟨rfl, rfl⟩ : n1 = n ∧ d1 = d := by simpa using hi
               exact ⟨hr.at rfl, hr.at rfl⟩
    | i + 1, hi => simp at hi⟩

/-- Two fractions boxed, and a result made. -/
def HR2 (w : World) (n1 d1 n2 d2 : ByteArray) (W : World) : Prop := Below w.heap.size w W ∧ RRow W w.heap.size n1 d1 ∧ RRow W (w.heap.size + 1) n2 d2 ∧ RAny W (w.heap.size + 1 + 1)
section
variable {w W W' : World} {n1 d1 n2 d2 : ByteArray}
theorem HR2.drew (h : HR2 w n1 d1 n2 d2 W) : HR2 w n1 d1 n2 d2 W.drew := ⟨h.1.drew, h.2.1.drawn, h.2.2.1.drawn, h.2.2.2⟩
theorem HR2.b (h : HR2 w n1 d1 n2 d2 W) : Below w.heap.size w W := h.1
theorem HR.b {n d : ByteArray} (h : HR w n d W) : Below w.heap.size w W := h.1
theorem HR2.res (h : HR2 w n1 d1 n2 d2 W) : RAny W (w.heap.size + 1 + 1) := h.2.2.2
theorem HR2.step (h : HR2 w n1 d1 n2 d2 W) (b : Below W.heap.size W W') : HR2 w n1 d1 n2 d2 W' := by
  obtain ⟨hb, r1, r2, n0, d0, r3⟩ := h
  exact ⟨below_step hb b, Row.over r1 b, Row.over r2 b, n0, d0, Row.over r3 b⟩
theorem HR2.put (h : HR2 w n1 d1 n2 d2 W) (a b : ByteArray) : HR2 w n1 d1 n2 d2 ((W.setCell ⟨w.heap.size + 1 + 1, 0, none⟩ (.string a)).setCell ⟨w.heap.size + 1 + 1, 1, none⟩ (.string b)) :=
  ⟨below_put h.1 (by omega) _ _, num_far h.2.1 (by omega) _ _, num_far h.2.2.1 (by omega) _ _, ⟨_, _, rat_put h.2.2.2 a b⟩⟩
theorem HR2.eqs (h : HR2 w n1 d1 n2 d2 W) : W.cell? ⟨w.heap.size, 0, none⟩ = some (.string n1) ∧ W.cell? ⟨w.heap.size, 1, none⟩ = some (.string d1) ∧ W.cell? ⟨w.heap.size + 1, 0, none⟩ = some (.string n2) ∧ W.cell? ⟨w.heap.size + 1, 1, none⟩ = some (.string d2) ∧ W.cell? ⟨w.heap.size + 1 + 1, 0, none⟩ = some (cellOf W ⟨w.heap.size + 1 + 1, 0, none⟩) ∧ W.cell? ⟨w.heap.size + 1 + 1, 1, none⟩ = some (cellOf W ⟨w.heap.size + 1 + 1, 1, none⟩) ∧ W.frozen? ⟨w.heap.size + 1 + 1, 0, none⟩ = false ∧ W.frozen? ⟨w.heap.size + 1 + 1, 1, none⟩ = false := by
  obtain ⟨k0, k1, _, _⟩ := two_cells h.2.1
  obtain ⟨l0, l1, _, _⟩ := two_cells h.2.2.1
  obtain ⟨i0, i1, f0, f1⟩ := h.2.2.2.eqs
  exact ⟨k0, k1, l0, l1, i0, i1, f0, f1⟩
end
theorem hr2_start (w : World) (n1 d1 n2 d2 : ByteArray) : HR2 w n1 d1 n2 d2 (((w.alloc (.cells #[.string n1, .string d1] 23)).alloc (.cells #[.string n2, .string d2] 23)).alloc (.cells #[.string ⟨#[]⟩, .string ⟨#[]⟩] 23)) :=
  ⟨keep_alloc (keep_alloc (below_alloc w _) _) _, ((Row.made w _ _).later _).later _, (Row.made_at _ _ _ (by simp)).later _, ⟨_, _, Row.made_at _ _ _ (by simp)⟩⟩

set_option maxRecDepth 100000 in
set_option maxHeartbeats 8000000 in
theorem join_of {T : ByteArray → ByteArray → ByteArray} {E : ByteArray → ByteArray → Int} (k : Nat) (hV : OpIs (.func (.func k) #[] #[]) T E) (n1 d1 n2 d2 : ByteArray) (w : World) (ht : Tab w) :
    Calls Tryz.prog 63 #[rv n1 d1, rv n2 d2, .func (.func k) #[] #[]] w fun e w' => e = .returned (ov (buildO [acceptF [(n1, d1), (n2, d2)], scaleF d2 d2, includeF T E n2 d1] n1 d1)) ∧ Below w.heap.size w w' := by
  have h0 := hr2_start w n1 d1 n2 d2
  have kk : ∀ W, HR2 w n1 d1 n2 d2 W → (Hid (HR2 w n1 d1 n2 d2 W) ∧ W.cell? ⟨w.heap.size, 0, none⟩ = some (.string n1) ∧ W.cell? ⟨w.heap.size, 1, none⟩ = some (.string d1) ∧ W.cell? ⟨w.heap.size + 1, 0, none⟩ = some (.string n2) ∧ W.cell? ⟨w.heap.size + 1, 1, none⟩ = some (.string d2) ∧ W.cell? ⟨w.heap.size + 1 + 1, 0, none⟩ = some (cellOf W ⟨w.heap.size + 1 + 1, 0, none⟩) ∧ W.cell? ⟨w.heap.size + 1 + 1, 1, none⟩ = some (cellOf W ⟨w.heap.size + 1 + 1, 1, none⟩) ∧ W.frozen? ⟨w.heap.size + 1 + 1, 0, none⟩ = false ∧ W.frozen? ⟨w.heap.size + 1 + 1, 1, none⟩ = false) := fun W h => ⟨Lib.hid h, h.eqs⟩
  have gg : ∀ W, (Hid (HR2 w n1 d1 n2 d2 W) ∧ W.cell? ⟨w.heap.size, 0, none⟩ = some (.string n1) ∧ W.cell? ⟨w.heap.size, 1, none⟩ = some (.string d1) ∧ W.cell? ⟨w.heap.size + 1, 0, none⟩ = some (.string n2) ∧ W.cell? ⟨w.heap.size + 1, 1, none⟩ = some (.string d2) ∧ W.cell? ⟨w.heap.size + 1 + 1, 0, none⟩ = some (cellOf W ⟨w.heap.size + 1 + 1, 0, none⟩) ∧ W.cell? ⟨w.heap.size + 1 + 1, 1, none⟩ = some (cellOf W ⟨w.heap.size + 1 + 1, 1, none⟩) ∧ W.frozen? ⟨w.heap.size + 1 + 1, 0, none⟩ = false ∧ W.frozen? ⟨w.heap.size + 1 + 1, 1, none⟩ = false) → HR2 w n1 d1 n2 d2 W := fun W h => h.1.out
  have KK := Lib.hid kk; have GG := Lib.hid gg
  clear kk gg
  have cB := fun (W : World) (g c : Nat) (v1 v2 v3 : Value) (h : Tab W) (hr : Row W g 79 #[v1, v2, v3]) (q1 : StepIs W v1 (acceptF [(n1, d1), (n2, d2)])) (q2 : StepIs W v2 (scaleF d2 d2)) (q3 : StepIs W v3 (includeF T E n2 d1)) => build_three (c := c) n1 d1 h hr q1 q2 q3
  obtain ⟨o, ho⟩ : ∃ o, o = buildO [acceptF [(n1, d1), (n2, d2)], scaleF d2 d2, includeF T E n2 d1] n1 d1 := ⟨_, rfl⟩
  rw [← ho] at cB ⊢
  obtain ⟨x, hx⟩ : ∃ x, x = qtN o := ⟨_, rfl⟩
  obtain ⟨y, hy⟩ : ∃ y, y = qtD o := ⟨_, rfl⟩
  obtain ⟨z, hz⟩ : ∃ z, z = qtE o := ⟨_, rfl⟩
  unfold ov at cB ⊢
  rw [← hx, ← hy, ← hz] at cB ⊢
  clear hx hy hz ho
  have CB := Lib.hid cB; have H0 := Lib.hid h0; have T0 := Lib.hid ht
  have CA := Lib.hid (fun W (g c : Nat) (h : Tab W) (hr : Row W g 23 #[.string n1, .string d1, .string n2, .string d2]) => accept_two n1 d1 n2 d2 g c W h hr)
  have CS := Lib.hid (fun W (h : Tab W) => scale_is d2 d2 W h); have CI := Lib.hid (fun W (h : Tab W) => include_is hV n2 d1 W h)
  clear h0 ht cB hV
  go_enter Tryz.func63, Tryz.ntmps63
  go_wp2
  generalize (((w.alloc (.cells #[.string n1, .string d1] 23)).alloc (.cells #[.string n2, .string d2] 23)).alloc (.cells #[.string ⟨#[]⟩, .string ⟨#[]⟩] 23)) = W0 at H0 ⊢
  go_region_held3 (fun W => Hid (HR2 w n1 d1 n2 d2 W) ∧ W.cell? ⟨w.heap.size, 0, none⟩ = some (.string n1) ∧ W.cell? ⟨w.heap.size, 1, none⟩ = some (.string d1) ∧ W.cell? ⟨w.heap.size + 1, 0, none⟩ = some (.string n2) ∧ W.cell? ⟨w.heap.size + 1, 1, none⟩ = some (.string d2) ∧ W.cell? ⟨w.heap.size + 1 + 1, 0, none⟩ = some (cellOf W ⟨w.heap.size + 1 + 1, 0, none⟩) ∧ W.cell? ⟨w.heap.size + 1 + 1, 1, none⟩ = some (cellOf W ⟨w.heap.size + 1 + 1, 1, none⟩) ∧ W.frozen? ⟨w.heap.size + 1 + 1, 0, none⟩ = false ∧ W.frozen? ⟨w.heap.size + 1 + 1, 1, none⟩ = false)
    (first | assumption | exact KK.out _ H0.out.drew | exact KK.out _ (HR2.step (GG.out _ (by assumption)) (by assumption)) | exact KK.out _ (HR2.step (GG.out _ (by assumption)) (below_alloc _ _)) | exact KK.out _ (HR2.put (GG.out _ (by assumption)) _ _))
    (first
      | (go_at_call 65; ((refine (CA.out _ _ _ (T0.out.below (HR2.b (GG.out _ (by assumption)))) (Row.drawn (Row.made _ _ _))).mono ?_); rintro e w6 ⟨v1, rfl, s1, b6⟩; obtain ⟨f1, x1, rfl⟩ := s1.shape))
      | (go_at_call 66; ((refine (CS.out _ (T0.out.below (HR2.b (GG.out _ (by assumption))))).mono ?_); rintro e w7 ⟨v2, rfl, s2, b7⟩; obtain ⟨f2, x2, rfl⟩ := s2.shape))
      | (go_at_call 92; ((refine (CI.out _ (T0.out.below (HR2.b (GG.out _ (by assumption))))).mono ?_); rintro e w8 ⟨v3, rfl, s3, b8⟩; obtain ⟨f3, x3, rfl⟩ := s3.shape))
      | (go_at_call 57; ((refine (CB.out _ _ _ _ _ _ (T0.out.below (HR2.b (GG.out _ (by assumption)))) (Row.made _ _ _) (((s1.below b7).below b8).below (below_alloc _ _)) ((s2.below b8).below (below_alloc _ _)) (s3.below (below_alloc _ _))).mono ?_); rintro e w9 ⟨rfl, b9⟩)))
  all_goals go_wp2
  have B9 : HR2 w n1 d1 n2 d2 w9 := HR2.step (HR2.step (HR2.step (HR2.step (HR2.step (HR2.drew (HR2.step H0.out (below_alloc _ _))) b6) b7) b8) (below_alloc _ _)) b9
  (try simp only [Exit.inBlock, Exit.then])
  refine bodyPost_ret (res_rt rfl rfl (rat_put B9.res _ _)) rfl ?_
  exact ⟨rfl, (B9.put _ _).b⟩
set_option maxRecDepth 100000 in
set_option maxHeartbeats 8000000 in
theorem mul_of (n1 d1 n2 d2 : ByteArray) (w : World) (ht : Tab w) :
    Calls Tryz.prog 39 #[rv n1 d1, rv n2 d2] w fun e w' => e = .returned (ov (mulO (readR n1 d1) (readR n2 d2))) ∧ Below w.heap.size w w' := by
  have h0 := hr2_start w n1 d1 n2 d2
  have kk : ∀ W, HR2 w n1 d1 n2 d2 W → (Hid (HR2 w n1 d1 n2 d2 W) ∧ W.cell? ⟨w.heap.size, 0, none⟩ = some (.string n1) ∧ W.cell? ⟨w.heap.size, 1, none⟩ = some (.string d1) ∧ W.cell? ⟨w.heap.size + 1, 0, none⟩ = some (.string n2) ∧ W.cell? ⟨w.heap.size + 1, 1, none⟩ = some (.string d2) ∧ W.cell? ⟨w.heap.size + 1 + 1, 0, none⟩ = some (cellOf W ⟨w.heap.size + 1 + 1, 0, none⟩) ∧ W.cell? ⟨w.heap.size + 1 + 1, 1, none⟩ = some (cellOf W ⟨w.heap.size + 1 + 1, 1, none⟩) ∧ W.frozen? ⟨w.heap.size + 1 + 1, 0, none⟩ = false ∧ W.frozen? ⟨w.heap.size + 1 + 1, 1, none⟩ = false) := fun W h => ⟨Lib.hid h, h.eqs⟩
  have gg : ∀ W, (Hid (HR2 w n1 d1 n2 d2 W) ∧ W.cell? ⟨w.heap.size, 0, none⟩ = some (.string n1) ∧ W.cell? ⟨w.heap.size, 1, none⟩ = some (.string d1) ∧ W.cell? ⟨w.heap.size + 1, 0, none⟩ = some (.string n2) ∧ W.cell? ⟨w.heap.size + 1, 1, none⟩ = some (.string d2) ∧ W.cell? ⟨w.heap.size + 1 + 1, 0, none⟩ = some (cellOf W ⟨w.heap.size + 1 + 1, 0, none⟩) ∧ W.cell? ⟨w.heap.size + 1 + 1, 1, none⟩ = some (cellOf W ⟨w.heap.size + 1 + 1, 1, none⟩) ∧ W.frozen? ⟨w.heap.size + 1 + 1, 0, none⟩ = false ∧ W.frozen? ⟨w.heap.size + 1 + 1, 1, none⟩ = false) → HR2 w n1 d1 n2 d2 W := fun W h => h.1.out
  have KK := Lib.hid kk; have GG := Lib.hid gg
  clear kk gg
  have cB := fun (W : World) (g c : Nat) (v1 v2 : Value) (h : Tab W) (hr : Row W g 79 #[v1, v2]) (q1 : StepIs W v1 (acceptF [(n1, d1), (n2, d2)])) (q2 : StepIs W v2 (scaleF n2 d2)) => build_two (c := c) n1 d1 h hr q1 q2
  rw [mul_chain] at cB
  obtain ⟨o, ho⟩ : ∃ o, o = mulO (readR n1 d1) (readR n2 d2) := ⟨_, rfl⟩
  rw [← ho] at cB ⊢
  obtain ⟨x, hx⟩ : ∃ x, x = qtN o := ⟨_, rfl⟩
  obtain ⟨y, hy⟩ : ∃ y, y = qtD o := ⟨_, rfl⟩
  obtain ⟨z, hz⟩ : ∃ z, z = qtE o := ⟨_, rfl⟩
  unfold ov at cB ⊢
  rw [← hx, ← hy, ← hz] at cB ⊢
  clear hx hy hz ho
  have CB := Lib.hid cB; have H0 := Lib.hid h0; have T0 := Lib.hid ht
  have CA := Lib.hid (fun W (g c : Nat) (h : Tab W) (hr : Row W g 23 #[.string n1, .string d1, .string n2, .string d2]) => accept_two n1 d1 n2 d2 g c W h hr)
  have CS := Lib.hid (fun W (h : Tab W) => scale_is n2 d2 W h)
  clear h0 ht cB
  go_enter Tryz.func39, Tryz.ntmps39
  go_wp2
  generalize (((w.alloc (.cells #[.string n1, .string d1] 23)).alloc (.cells #[.string n2, .string d2] 23)).alloc (.cells #[.string ⟨#[]⟩, .string ⟨#[]⟩] 23)) = W0 at H0 ⊢
  go_region_held3 (fun W => Hid (HR2 w n1 d1 n2 d2 W) ∧ W.cell? ⟨w.heap.size, 0, none⟩ = some (.string n1) ∧ W.cell? ⟨w.heap.size, 1, none⟩ = some (.string d1) ∧ W.cell? ⟨w.heap.size + 1, 0, none⟩ = some (.string n2) ∧ W.cell? ⟨w.heap.size + 1, 1, none⟩ = some (.string d2) ∧ W.cell? ⟨w.heap.size + 1 + 1, 0, none⟩ = some (cellOf W ⟨w.heap.size + 1 + 1, 0, none⟩) ∧ W.cell? ⟨w.heap.size + 1 + 1, 1, none⟩ = some (cellOf W ⟨w.heap.size + 1 + 1, 1, none⟩) ∧ W.frozen? ⟨w.heap.size + 1 + 1, 0, none⟩ = false ∧ W.frozen? ⟨w.heap.size + 1 + 1, 1, none⟩ = false)
    (first | assumption | exact KK.out _ H0.out.drew | exact KK.out _ (HR2.step (GG.out _ (by assumption)) (by assumption)) | exact KK.out _ (HR2.step (GG.out _ (by assumption)) (below_alloc _ _)) | exact KK.out _ (HR2.put (GG.out _ (by assumption)) _ _))
    (first
      | (go_at_call 65; ((refine (CA.out _ _ _ (T0.out.below (HR2.b (GG.out _ (by assumption)))) (Row.drawn (Row.made _ _ _))).mono ?_); rintro e w6 ⟨v1, rfl, s1, b6⟩; obtain ⟨f1, x1, rfl⟩ := s1.shape))
      | (go_at_call 66; ((refine (CS.out _ (T0.out.below (HR2.b (GG.out _ (by assumption))))).mono ?_); rintro e w7 ⟨v2, rfl, s2, b7⟩; obtain ⟨f2, x2, rfl⟩ := s2.shape))
      | (go_at_call 57; ((refine (CB.out _ _ _ _ _ (T0.out.below (HR2.b (GG.out _ (by assumption)))) (Row.made _ _ _) ((s1.below b7).below (below_alloc _ _)) (s2.below (below_alloc _ _))).mono ?_); rintro e w9 ⟨rfl, b9⟩)))
  all_goals go_wp2
  have B9 : HR2 w n1 d1 n2 d2 w9 := HR2.step (HR2.step (HR2.step (HR2.step (HR2.drew (HR2.step H0.out (below_alloc _ _))) b6) b7) (below_alloc _ _)) b9
  (try simp only [Exit.inBlock, Exit.then])
  refine bodyPost_ret (res_rt rfl rfl (rat_put B9.res _ _)) rfl ?_
  exact ⟨rfl, (B9.put _ _).b⟩
set_option maxRecDepth 100000 in
set_option maxHeartbeats 8000000 in
theorem div_of (n1 d1 n2 d2 : ByteArray) (w : World) (ht : Tab w) :
    Calls Tryz.prog 45 #[rv n1 d1, rv n2 d2] w fun e w' => e = .returned (ov (divO (readR n1 d1) (readR n2 d2))) ∧ Below w.heap.size w w' := by
  have h0 := hr2_start w n1 d1 n2 d2
  have kk : ∀ W, HR2 w n1 d1 n2 d2 W → (Hid (HR2 w n1 d1 n2 d2 W) ∧ W.cell? ⟨w.heap.size, 0, none⟩ = some (.string n1) ∧ W.cell? ⟨w.heap.size, 1, none⟩ = some (.string d1) ∧ W.cell? ⟨w.heap.size + 1, 0, none⟩ = some (.string n2) ∧ W.cell? ⟨w.heap.size + 1, 1, none⟩ = some (.string d2) ∧ W.cell? ⟨w.heap.size + 1 + 1, 0, none⟩ = some (cellOf W ⟨w.heap.size + 1 + 1, 0, none⟩) ∧ W.cell? ⟨w.heap.size + 1 + 1, 1, none⟩ = some (cellOf W ⟨w.heap.size + 1 + 1, 1, none⟩) ∧ W.frozen? ⟨w.heap.size + 1 + 1, 0, none⟩ = false ∧ W.frozen? ⟨w.heap.size + 1 + 1, 1, none⟩ = false) := fun W h => ⟨Lib.hid h, h.eqs⟩
  have gg : ∀ W, (Hid (HR2 w n1 d1 n2 d2 W) ∧ W.cell? ⟨w.heap.size, 0, none⟩ = some (.string n1) ∧ W.cell? ⟨w.heap.size, 1, none⟩ = some (.string d1) ∧ W.cell? ⟨w.heap.size + 1, 0, none⟩ = some (.string n2) ∧ W.cell? ⟨w.heap.size + 1, 1, none⟩ = some (.string d2) ∧ W.cell? ⟨w.heap.size + 1 + 1, 0, none⟩ = some (cellOf W ⟨w.heap.size + 1 + 1, 0, none⟩) ∧ W.cell? ⟨w.heap.size + 1 + 1, 1, none⟩ = some (cellOf W ⟨w.heap.size + 1 + 1, 1, none⟩) ∧ W.frozen? ⟨w.heap.size + 1 + 1, 0, none⟩ = false ∧ W.frozen? ⟨w.heap.size + 1 + 1, 1, none⟩ = false) → HR2 w n1 d1 n2 d2 W := fun W h => h.1.out
  have KK := Lib.hid kk; have GG := Lib.hid gg
  clear kk gg
  have cB := fun (W : World) (g c : Nat) (v1 v2 : Value) (h : Tab W) (hr : Row W g 79 #[v1, v2]) (q1 : StepIs W v1 (acceptF [(n1, d1), (n2, d2)])) (q2 : StepIs W v2 (scaleF d2 n2)) => build_two (c := c) n1 d1 h hr q1 q2
  rw [div_chain] at cB
  obtain ⟨o, ho⟩ : ∃ o, o = divO (readR n1 d1) (readR n2 d2) := ⟨_, rfl⟩
  rw [← ho] at cB ⊢
  obtain ⟨x, hx⟩ : ∃ x, x = qtN o := ⟨_, rfl⟩
  obtain ⟨y, hy⟩ : ∃ y, y = qtD o := ⟨_, rfl⟩
  obtain ⟨z, hz⟩ : ∃ z, z = qtE o := ⟨_, rfl⟩
  unfold ov at cB ⊢
  rw [← hx, ← hy, ← hz] at cB ⊢
  clear hx hy hz ho
  have CB := Lib.hid cB; have H0 := Lib.hid h0; have T0 := Lib.hid ht
  have CA := Lib.hid (fun W (g c : Nat) (h : Tab W) (hr : Row W g 23 #[.string n1, .string d1, .string n2, .string d2]) => accept_two n1 d1 n2 d2 g c W h hr)
  have CS := Lib.hid (fun W (h : Tab W) => scale_is d2 n2 W h)
  clear h0 ht cB
  go_enter Tryz.func45, Tryz.ntmps45
  go_wp2
  generalize (((w.alloc (.cells #[.string n1, .string d1] 23)).alloc (.cells #[.string n2, .string d2] 23)).alloc (.cells #[.string ⟨#[]⟩, .string ⟨#[]⟩] 23)) = W0 at H0 ⊢
  go_region_held3 (fun W => Hid (HR2 w n1 d1 n2 d2 W) ∧ W.cell? ⟨w.heap.size, 0, none⟩ = some (.string n1) ∧ W.cell? ⟨w.heap.size, 1, none⟩ = some (.string d1) ∧ W.cell? ⟨w.heap.size + 1, 0, none⟩ = some (.string n2) ∧ W.cell? ⟨w.heap.size + 1, 1, none⟩ = some (.string d2) ∧ W.cell? ⟨w.heap.size + 1 + 1, 0, none⟩ = some (cellOf W ⟨w.heap.size + 1 + 1, 0, none⟩) ∧ W.cell? ⟨w.heap.size + 1 + 1, 1, none⟩ = some (cellOf W ⟨w.heap.size + 1 + 1, 1, none⟩) ∧ W.frozen? ⟨w.heap.size + 1 + 1, 0, none⟩ = false ∧ W.frozen? ⟨w.heap.size + 1 + 1, 1, none⟩ = false)
    (first | assumption | exact KK.out _ H0.out.drew | exact KK.out _ (HR2.step (GG.out _ (by assumption)) (by assumption)) | exact KK.out _ (HR2.step (GG.out _ (by assumption)) (below_alloc _ _)) | exact KK.out _ (HR2.put (GG.out _ (by assumption)) _ _))
    (first
      | (go_at_call 65; ((refine (CA.out _ _ _ (T0.out.below (HR2.b (GG.out _ (by assumption)))) (Row.drawn (Row.made _ _ _))).mono ?_); rintro e w6 ⟨v1, rfl, s1, b6⟩; obtain ⟨f1, x1, rfl⟩ := s1.shape))
      | (go_at_call 66; ((refine (CS.out _ (T0.out.below (HR2.b (GG.out _ (by assumption))))).mono ?_); rintro e w7 ⟨v2, rfl, s2, b7⟩; obtain ⟨f2, x2, rfl⟩ := s2.shape))
      | (go_at_call 57; ((refine (CB.out _ _ _ _ _ (T0.out.below (HR2.b (GG.out _ (by assumption)))) (Row.made _ _ _) ((s1.below b7).below (below_alloc _ _)) (s2.below (below_alloc _ _))).mono ?_); rintro e w9 ⟨rfl, b9⟩)))
  all_goals go_wp2
  have B9 : HR2 w n1 d1 n2 d2 w9 := HR2.step (HR2.step (HR2.step (HR2.step (HR2.drew (HR2.step H0.out (below_alloc _ _))) b6) b7) (below_alloc _ _)) b9
  (try simp only [Exit.inBlock, Exit.then])
  refine bodyPost_ret (res_rt rfl rfl (rat_put B9.res _ _)) rfl ?_
  exact ⟨rfl, (B9.put _ _).b⟩
set_option maxRecDepth 100000 in
set_option maxHeartbeats 8000000 in
theorem add_of (n1 d1 n2 d2 : ByteArray) (w : World) (ht : Tab w) :
    Calls Tryz.prog 38 #[rv n1 d1, rv n2 d2] w fun e w' => e = .returned (ov (addO (readR n1 d1) (readR n2 d2))) ∧ Below w.heap.size w w' := by
  have h0 := hr2_start w n1 d1 n2 d2
  obtain ⟨a1, a2, a3, a4, a5, a6, a7, a8⟩ := h0.eqs
  have cJ := join_of _ op_add n1 d1 n2 d2 _ (ht.below h0.b)
  rw [add_chain] at cJ
  obtain ⟨o, ho⟩ : ∃ o, o = addO (readR n1 d1) (readR n2 d2) := ⟨_, rfl⟩
  rw [← ho] at cJ ⊢
  obtain ⟨x, hx⟩ : ∃ x, x = qtN o := ⟨_, rfl⟩
  obtain ⟨y, hy⟩ : ∃ y, y = qtD o := ⟨_, rfl⟩
  obtain ⟨z, hz⟩ : ∃ z, z = qtE o := ⟨_, rfl⟩
  unfold ov at cJ ⊢
  rw [← hx, ← hy, ← hz] at cJ ⊢
  clear hx hy hz ho
  have CJ := Lib.hid cJ; have H0 := Lib.hid h0
  clear h0 ht cJ
  go_enter Tryz.func38, Tryz.ntmps38
  go_wp2_with (first
    | (go_at_call 63; (with_reducible refine CJ.out.mono ?_); rintro e w2 ⟨rfl, hb2⟩; have H2 := HR2.step H0.out hb2; obtain ⟨c1, c2, c3, c4, c5, c6, c7, c8⟩ := H2.eqs)
    | fail)
  (try simp only [Exit.inBlock, Exit.then])
  refine bodyPost_ret (res_rt rfl rfl (rat_put H2.res _ _)) rfl ?_
  exact ⟨rfl, (H2.put _ _).b⟩
set_option maxRecDepth 100000 in
set_option maxHeartbeats 8000000 in
theorem sub_of (n1 d1 n2 d2 : ByteArray) (w : World) (ht : Tab w) :
    Calls Tryz.prog 40 #[rv n1 d1, rv n2 d2] w fun e w' => e = .returned (ov (subO (readR n1 d1) (readR n2 d2))) ∧ Below w.heap.size w w' := by
  have h0 := hr2_start w n1 d1 n2 d2
  obtain ⟨a1, a2, a3, a4, a5, a6, a7, a8⟩ := h0.eqs
  have cJ := join_of _ op_sub n1 d1 n2 d2 _ (ht.below h0.b)
  rw [sub_chain] at cJ
  obtain ⟨o, ho⟩ : ∃ o, o = subO (readR n1 d1) (readR n2 d2) := ⟨_, rfl⟩
  rw [← ho] at cJ ⊢
  obtain ⟨x, hx⟩ : ∃ x, x = qtN o := ⟨_, rfl⟩
  obtain ⟨y, hy⟩ : ∃ y, y = qtD o := ⟨_, rfl⟩
  obtain ⟨z, hz⟩ : ∃ z, z = qtE o := ⟨_, rfl⟩
  unfold ov at cJ ⊢
  rw [← hx, ← hy, ← hz] at cJ ⊢
  clear hx hy hz ho
  have CJ := Lib.hid cJ; have H0 := Lib.hid h0
  clear h0 ht cJ
  go_enter Tryz.func40, Tryz.ntmps40
  go_wp2_with (first
    | (go_at_call 63; (with_reducible refine CJ.out.mono ?_); rintro e w2 ⟨rfl, hb2⟩; have H2 := HR2.step H0.out hb2; obtain ⟨c1, c2, c3, c4, c5, c6, c7, c8⟩ := H2.eqs)
    | fail)
  (try simp only [Exit.inBlock, Exit.then])
  refine bodyPost_ret (res_rt rfl rfl (rat_put H2.res _ _)) rfl ?_
  exact ⟨rfl, (H2.put _ _).b⟩
end Go.Proofs.YtgpncnnlhhmjaaaGreatDoor
