/- Boxed fractions in a law's walk; the laws' helpers is, pick, minus. minus. -/
import Derived.Test.YtgpncnnlhhmjaaaGreatDoorCmq
import Derived.Deep.Cut
import Derived.Deep.CutRange
import Derived.Deep.DeepCutAuto
namespace Go.Proofs.YtgpncnnlhhmjaaaGreatDoor
open Go.RowKit

/-- Boxes of fractions. -/
def Bx (W : World) : List (Nat × ByteArray × ByteArray) → Prop
  | [] => True
  | (g, n, d) :: l => RRow W g n d ∧ Bx W l
def Cx (W : World) : List (Nat × ByteArray × ByteArray) → Prop
  | [] => True
  | (g, n, d) :: l => W.cell? ⟨g, 0, none⟩ = some (.string n) ∧ W.cell? ⟨g, 1, none⟩ = some (.string d) ∧ Cx W l
theorem Bx.over {W W' : World} : ∀ {l : List (Nat × ByteArray × ByteArray)}, Bx W l → Below W.heap.size W W' → Bx W' l
  | [], _, _ => trivial
  | (_, _, _) :: _, h, hb => ⟨Row.over h.1 hb, Bx.over h.2 hb⟩
theorem Bx.push {W : World} {l : List (Nat × ByteArray × ByteArray)} (h : Bx W l) (n d : ByteArray) : Bx (W.alloc (.cells #[.string n, .string d] 23)) ((W.heap.size, n, d) :: l) := ⟨Row.made W _ _, h.over (below_alloc W _)⟩
theorem Bx.eqs {W : World} : ∀ {l : List (Nat × ByteArray × ByteArray)}, Bx W l → Cx W l
  | [], _ => trivial
  | (_, _, _) :: _, h => ⟨(two_cells h.1).1, (two_cells h.1).2.1, Bx.eqs h.2⟩
theorem Bx.lies {W : World} : ∀ {l : List (Nat × ByteArray × ByteArray)}, Bx W l → ∀ x ∈ l, x.1 < W.heap.size
  | [], _, _, hx => by cases hx
  | (_, _, _) :: _, h, x, hx => by
    rcases List.mem_cons.1 hx with e | e
    · subst e; exact Row.inside h.1
    · exact Bx.lies h.2 x e
theorem Bx.far {W : World} {g : Nat} (a b : Value) : ∀ {l : List (Nat × ByteArray × ByteArray)}, Bx W l → (∀ x ∈ l, x.1 < g) → Bx ((W.setCell ⟨g, 0, none⟩ a).setCell ⟨g, 1, none⟩ b) l
  | [], _, _ => trivial
  | (g', _, _) :: _, h, hl => ⟨num_far h.1 (by have := hl _ (List.mem_cons_self ..); simp only at this; omega) a b, Bx.far a b h.2 fun x hx => hl x (List.mem_cons_of_mem _ hx)⟩
/-- A box that is made and written. -/
theorem Bx.fresh {W : World} {l : List (Nat × ByteArray × ByteArray)} (h : Bx W l) (n0 d0 n d : ByteArray) :
    Bx (((W.alloc (.cells #[.string n0, .string d0] 23)).setCell ⟨W.heap.size, 0, none⟩ (.string n)).setCell ⟨W.heap.size, 1, none⟩ (.string d)) ((W.heap.size, n, d) :: l) :=
  ⟨rat_put ⟨_, _, Row.made W _ _⟩ n d, (h.over (below_alloc W _)).far _ _ fun x hx => h.lies x hx⟩
/-- The boxes l lie in W, over whatever lay in w. -/
def Iv (w : World) (l : List (Nat × ByteArray × ByteArray)) (W : World) : Prop := Below w.heap.size w W ∧ Bx W l
def Fresh (w : World) (l : List (Nat × ByteArray × ByteArray)) (g : Nat) : Prop := (∀ x ∈ l, x.1 < g) ∧ w.heap.size ≤ g
section
variable {w W W' : World} {l : List (Nat × ByteArray × ByteArray)}
theorem Iv.b (h : Iv w l W) : Below w.heap.size w W := h.1
theorem Iv.bx (h : Iv w l W) : Bx W l := h.2
theorem Iv.step (h : Iv w l W) (b : Below W.heap.size W W') : Iv w l W' := ⟨below_step h.1 b, h.2.over b⟩
theorem Bx.drew' : ∀ {l : List (Nat × ByteArray × ByteArray)}, Bx W l → Bx W.drew l
  | [], _ => trivial
  | (_, _, _) :: _, h => ⟨h.1.drawn, Bx.drew' h.2⟩
theorem Iv.drew (h : Iv w l W) : Iv w l W.drew := ⟨h.1.drew, Bx.drew' h.2⟩
theorem Iv.new (h : Iv w l W) : Fresh w l W.heap.size := ⟨fun x hx => h.2.lies x hx, h.1.size⟩
theorem Iv.far {g : Nat} (h : Iv w l W) (hf : Fresh w l g) (a b : Value) : Iv w l ((W.setCell ⟨g, 0, none⟩ a).setCell ⟨g, 1, none⟩ b) := ⟨below_put h.1 hf.2 a b, h.2.far a b hf.1⟩
theorem Iv.push (h : Iv w l W) (n d : ByteArray) : Iv w ((W.heap.size, n, d) :: l) (W.alloc (.cells #[.string n, .string d] 23)) := ⟨keep_alloc h.1 _, h.2.push n d⟩
theorem Iv.eqs (h : Iv w l W) : Cx W l := h.2.eqs
/-- A box that was made ahead and is written now. -/
theorem Iv.put {g : Nat} (h : Iv w l W) (hf : Fresh w l g) (hr : RAny W g) (n d : ByteArray) : Iv w ((g, n, d) :: l) ((W.setCell ⟨g, 0, none⟩ (.string n)).setCell ⟨g, 1, none⟩ (.string d)) :=
  ⟨below_put h.1 hf.2 _ _, rat_put hr n d, h.2.far _ _ hf.1⟩
end
theorem RAny.over {w W : World} {g : Nat} (h : RAny w g) (hb : Below w.heap.size w W) : RAny W g := by
  obtain ⟨n, d, h⟩ := h
  exact ⟨n, d, Row.over h hb⟩
theorem RAny.made (w : World) (n d : ByteArray) : RAny (w.alloc (.cells #[.string n, .string d] 23)) w.heap.size := ⟨n, d, Row.made w _ _⟩
theorem RAny.drew {w : World} {g : Nat} (h : RAny w g) : RAny w.drew g := h
theorem Bx.nil (W : World) : Bx W [] := trivial
theorem Bx.drew {W : World} : ∀ {l : List (Nat × ByteArray × ByteArray)}, Bx W l → Bx W.drew l
  | [], _ => trivial
  | (_, _, _) :: _, h => ⟨h.1.drawn, Bx.drew h.2⟩

set_option maxRecDepth 100000 in
theorem is_of (n d : ByteArray) (w : World) : Calls Tryz.prog 41 #[.string n, .string d] w fun e w' => e = .returned (rv n d) ∧ Below w.heap.size w w' := by
  go_enter Tryz.func41, Tryz.ntmps41
  go_wp2
  (try simp only [Exit.inBlock, Exit.then])
  refine bodyPost_ret (res_r rfl rfl (Row.made w _ _)) rfl ?_
  exact ⟨rfl, below_alloc w _⟩
theorem emod_le_self {k n : Int} (hk : 0 ≤ k) (hn : 0 < n) : k % n ≤ k := by
  have h1 := Int.mul_ediv_add_emod k n
  have h2 := Int.mul_nonneg (show 0 ≤ n by omega) (Int.ediv_nonneg hk (show 0 ≤ n by omega))
  omega
/-- pick. -/
def pkI (c : Int) (n : Int) : Int := (if c < 0 then -(c + 1) else c) % n
theorem pkI_lo {c n : Int} (hn : 0 < n) : 0 ≤ pkI c n := Int.emod_nonneg _ (by omega)
theorem pkI_hi {c n : Int} (hn : 0 < n) : pkI c n < n := Int.emod_lt_of_pos _ hn
set_option maxRecDepth 100000 in
theorem pick_of (c n : Int) (hn : 0 < n) (c0 : -9223372036854775808 ≤ c) (c1 : c ≤ 9223372036854775807) (w : World) : Calls Tryz.prog 22 #[.int .i64 c, .int .i64 n] w fun e w' => e = .returned (.int .i64 (pkI c n)) ∧ w' = w := by
  have hn0 : ¬ n = 0 := by omega
  by_cases h : c < 0
  · have e1 : IntKind.i64.wrap (c + 1) = c + 1 := IntWalk.i64_in _ (by omega)
    have e2 : IntKind.i64.wrap (-(c + 1)) = -(c + 1) := IntWalk.i64_in _ (by omega)
    obtain ⟨k, hk⟩ : ∃ k, k = -(c + 1) := ⟨_, rfl⟩
    rw [← hk] at e2
    have e3 : k.tmod n = pkI c n := by rw [pkI, if_pos h, ← hk]; exact Int.tmod_eq_emod_of_nonneg (by omega)
    have e4 : IntKind.i64.wrap (-(c + 1)) = k := by rw [← hk, e2]
    have hp : -9223372036854775808 ≤ pkI c n ∧ pkI c n ≤ 9223372036854775807 := by
      have := pkI_lo (c := c) hn
      have h2 : pkI c n ≤ k := by rw [pkI, if_pos h, ← hk]; exact emod_le_self (by omega) hn
      omega
    generalize pkI c n = p at *
    clear hk
    go_enter Tryz.func22, Tryz.ntmps22
    go_wp2
    go_ret
    exact ⟨rfl, rfl⟩
  · have e3 : c.tmod n = pkI c n := by rw [pkI, if_neg h]; exact Int.tmod_eq_emod_of_nonneg (by omega)
    have hp : -9223372036854775808 ≤ pkI c n ∧ pkI c n ≤ 9223372036854775807 := by
      have := pkI_lo (c := c) hn
      have h2 : pkI c n ≤ c := by rw [pkI, if_neg h]; exact emod_le_self (by omega) hn
      omega
    generalize pkI c n = p at *
    go_enter Tryz.func22, Tryz.ntmps22
    go_wp2
    go_ret
    exact ⟨rfl, rfl⟩
theorem zero_text : (qv (some 0)) = rv ⟨#[48]⟩ ⟨#[49]⟩ := by
  show rv (dec (0 : Rat).num) (dec ((0 : Rat).den : Int)) = _
  rw [l0, l1]; rfl
/-- minus. -/
def negO : Option Rat → Option Rat
  | some q => some (-q)
  | none => none
theorem sub_zero_neg {o : Option Rat} (h : okO o = true) : subO (some 0) o = negO o := by
  cases o with
  | none => rfl
  | some q =>
    obtain ⟨h1, h2⟩ := okQ_iff.1 h
    have e1 : fits ((0 : Rat).num * q.den) = true := by rw [Rat.zero_num, Int.zero_mul]; exact fits_tiny (by decide)
    have e2 : fits (q.num * ((0 : Rat).den : Int)) = true := by rw [Rat.zero_den]; exact fits_le h1 (by simp)
    have e3 : fits (((0 : Rat).den : Int) * q.den) = true := by rw [Rat.zero_den]; exact fits_le h2 (by simp)
    have e4 : fits ((0 : Rat).num * q.den - q.num * ((0 : Rat).den : Int)) = true := by rw [Rat.zero_num, Rat.zero_den]; exact fits_le h1 (by simp)
    rw [subO, e1, e2, e3, e4, negO]
    have : (0 : Rat) - q = -q := by grind
    rw [this]; rfl
theorem neg_ok {o : Option Rat} (h : okO o = true) : okO (negO o) = true := by
  rw [← sub_zero_neg h]; exact sub_ok _ _
theorem zero_ok : okO (some 0) = true := okQ_iff.2 ⟨fits_tiny (by decide), fits_tiny (by decide)⟩
end Go.Proofs.YtgpncnnlhhmjaaaGreatDoor
namespace Go.Proofs.YtgpncnnlhhmjaaaGreatDoor
open Go.RowKit

set_option maxRecDepth 100000 in
set_option maxHeartbeats 4000000 in
theorem minus_q {o : Option Rat} (h : okO o = true) (w : World) (ht : Tab w) : Calls Tryz.prog 42 #[qv o] w fun e w' => e = .returned (qv (negO o)) ∧ Below w.heap.size w w' := by
  have cS := fun W (h2 : Tab W) => sub_q (a := some 0) zero_ok h W h2
  rw [sub_zero_neg h, zero_text] at cS
  obtain ⟨x, hx⟩ : ∃ x, x = qtN (negO o) := ⟨_, rfl⟩
  obtain ⟨y, hy⟩ : ∃ y, y = qtD (negO o) := ⟨_, rfl⟩
  obtain ⟨z, hz⟩ : ∃ z, z = qtE (negO o) := ⟨_, rfl⟩
  unfold ov qv rv at cS
  rw [← hx, ← hy, ← hz] at cS
  unfold qv rv
  rw [← hx, ← hy]
  generalize qtN o = n at *
  generalize qtD o = d at *
  obtain ⟨W0, hW0⟩ : ∃ W0, W0 = ((w.alloc (.cells #[.string n, .string d] 23)).alloc (.cells #[.string ⟨#[]⟩, .string ⟨#[]⟩] 23)) := ⟨_, rfl⟩
  have h0 : Iv w [(w.heap.size, n, d), (w.heap.size + 1, ⟨#[]⟩, ⟨#[]⟩)] W0 := by
    rw [hW0]
    exact ⟨keep_alloc (below_alloc w _) _, (Row.made w _ _).later _, Row.made_at _ _ _ (by simp), trivial⟩
  have kk : ∀ W, Iv w [(w.heap.size, n, d), (w.heap.size + 1, ⟨#[]⟩, ⟨#[]⟩)] W → (Hid (Iv w [(w.heap.size, n, d), (w.heap.size + 1, ⟨#[]⟩, ⟨#[]⟩)] W) ∧ W.cell? ⟨w.heap.size, 0, none⟩ = some (.string n) ∧ W.cell? ⟨w.heap.size, 1, none⟩ = some (.string d)) := fun W h => ⟨Lib.hid h, h.eqs.1, h.eqs.2.1⟩
  have gg : ∀ W, (Hid (Iv w [(w.heap.size, n, d), (w.heap.size + 1, ⟨#[]⟩, ⟨#[]⟩)] W) ∧ W.cell? ⟨w.heap.size, 0, none⟩ = some (.string n) ∧ W.cell? ⟨w.heap.size, 1, none⟩ = some (.string d)) → Iv w [(w.heap.size, n, d), (w.heap.size + 1, ⟨#[]⟩, ⟨#[]⟩)] W := fun W h => h.1.out
  have F0 := h0.new
  have KK := Lib.hid kk; have GG := Lib.hid gg; have H0 := Lib.hid h0; have CS := Lib.hid cS; have T0 := Lib.hid ht; have CI := Lib.hid (is_of ⟨#[48]⟩ ⟨#[49]⟩)
  clear kk gg h0 cS ht hx hy hz h
  go_enter Tryz.func42, Tryz.ntmps42
  go_upto_region 1 with fail
  rw [← hW0]
  clear hW0
  go_cut [3] (fun s3 W => ∃ g, s3 = .pointer (some ⟨g, 0, none⟩) ∧ Fresh w [(w.heap.size, n, d), (w.heap.size + 1, ⟨#[]⟩, ⟨#[]⟩)] g ∧ Iv w ((g, x, y) :: [(w.heap.size, n, d), (w.heap.size + 1, ⟨#[]⟩, ⟨#[]⟩)]) W)
  case first =>
    go_region_held3 (fun W => Hid (Iv w [(w.heap.size, n, d), (w.heap.size + 1, ⟨#[]⟩, ⟨#[]⟩)] W) ∧ W.cell? ⟨w.heap.size, 0, none⟩ = some (.string n) ∧ W.cell? ⟨w.heap.size, 1, none⟩ = some (.string d))
      (first | assumption | exact KK.out _ H0.out.drew | exact KK.out _ (Iv.step (GG.out _ (by assumption)) (by assumption)) | exact KK.out _ (Iv.step (GG.out _ (by assumption)) (below_alloc _ _)) | exact KK.out _ (Iv.step H7 (below_alloc _ _)) | exact KK.out _ (Iv.far (GG.out _ (by assumption)) (by assumption) _ _))
      (first
        | (go_at_call 41; ((refine (CI.out _).mono ?_); rintro e w6 ⟨rfl, b6⟩; have H6 := Iv.step (GG.out _ (by assumption)) b6; have F6 := Iv.new H6; try (have N6 := RAny.over (RAny.drew (RAny.made W0 ⟨#[]⟩ ⟨#[]⟩)) b6)))
        | (go_at_call 40; ((refine (CS.out _ (T0.out.below (Iv.b (GG.out _ (by assumption))))).mono ?_); rintro e w7 ⟨rfl, b7⟩; have H7 := Iv.step (GG.out _ (by assumption)) b7; have F7 := Iv.new H7; try (first | (have N7 := RAny.over N6 b7; obtain ⟨q0, q1, q2, q3⟩ := N7.eqs) | (have N7 := RAny.over (RAny.made w6 ⟨#[]⟩ ⟨#[]⟩) b7; obtain ⟨q0, q1, q2, q3⟩ := N7.eqs)))))
    all_goals go_wp2_with fail
    all_goals go_meet
    all_goals (case rel => first | exact ⟨_, rfl, F7, Iv.push H7 x y⟩ | exact ⟨_, rfl, F6, Iv.put H7 F6 N7 _ _⟩ | exact ⟨_, rfl, F0, Iv.put H7 F0 N7 _ _⟩)
  case rest =>
    obtain ⟨g, rfl, hf, hi⟩ := hcut
    obtain ⟨i0, i1, _⟩ := hi.eqs
    obtain ⟨j0, j1, f0, f1⟩ := two_cells hi.2.2.2.1
    have HI := Lib.hid hi
    clear hi
    go_wp2
    (try simp only [Exit.inBlock, Exit.then])
    refine bodyPost_ret (res_r rfl rfl (rat_put ⟨_, _, HI.out.2.2.2.1⟩ _ _)) rfl ?_
    exact ⟨rfl, below_put HI.out.1 (Nat.le_succ _) _ _⟩
end Go.Proofs.YtgpncnnlhhmjaaaGreatDoor
