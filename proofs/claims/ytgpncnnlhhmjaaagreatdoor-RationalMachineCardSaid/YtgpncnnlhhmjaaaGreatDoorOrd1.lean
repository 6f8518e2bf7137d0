/- RationalOrder: the walk. -/
import Derived.Test.YtgpncnnlhhmjaaaGreatDoorOrdM
import Derived.Lib.QuietBelow
import Derived.BigQuiet
namespace Go.Proofs.YtgpncnnlhhmjaaaGreatDoor
open Go.RowKit

section
variable {P : Program} {ops : Array Oper} {C : World → Prop} {Q : Exit → Act → World → Prop}
/-- A region in the order of its text, whose operations only read and whose callees lay blocks alone: by the quiet walk. -/
theorem wpList_of_quiet : ∀ (l : List Oper) (a : Act) (w : World), C w → wpQuiet P ops C (fun a' => ∀ w', C w' → Q .normal a' w') l a → wpList P ops Q l a w
  | [], _, w, hw, h => h w hw
  | o :: rest, a, w, hw, h => by
    unfold wpList
    unfold wpQuiet at h
    split
    · rename_i hwant
      rw [if_pos hwant] at h
      exact .inl (Oper.wp_of_quiet hw (fun a w' hw' hq => wpList_of_quiet rest a w' hw' hq) h)
    · rename_i hn
      rw [if_neg hn] at h
      exact wpList_of_quiet rest _ w hw h
theorem wp_region_quiet_forced {id : Nat} {a : Act} {w : World} {l : List Oper} (h : wpQuiet P l.toArray (fun w' => ∃ p : Regrown, w' = Sort.grow (redrawn w p.d) p.os) (fun a' => ∀ w', (∃ p : Regrown, w' = Sort.grow (redrawn w p.d) p.os) → Q .normal a' w') l a) : (Code.region id l.toArray false).wp P Q a w :=
  wp_region_lit (wpList_of_quiet l a w ⟨⟨w.drawn, #[]⟩, by rw [Sort.grow_empty]; rfl⟩ h)
end
abbrev A4 (a b c d : Int) : Array Value := #[.int .i64 a, .int .i64 b, .int .i64 c, .int .i64 d]
/-- The arguments' arrays, boxed. -/
def AR (w : World) (X Y Z S : Array Value) (W : World) : Prop := Row W w.heap.size 24 X ∧ Row W (w.heap.size + 1) 24 Y ∧ Row W (w.heap.size + 1 + 1) 24 Z ∧ Row W (w.heap.size + 1 + 1 + 1) 25 S
theorem AR.over {w W W' : World} {X Y Z S : Array Value} (h : AR w X Y Z S W) (hb : Below W.heap.size W W') : AR w X Y Z S W' := ⟨Row.over h.1 hb, Row.over h.2.1 hb, Row.over h.2.2.1 hb, Row.over h.2.2.2 hb⟩
theorem Bx.off {W : World} {g : Nat} (a b : Value) : ∀ {l : List (Nat × ByteArray × ByteArray)}, Bx W l → (∀ x ∈ l, x.1 ≠ g) → Bx ((W.setCell ⟨g, 0, none⟩ a).setCell ⟨g, 1, none⟩ b) l
  | [], _, _ => trivial
  | (_, _, _) :: _, h, hl => ⟨num_far h.1 (fun e => hl _ (List.mem_cons_self ..) e.symm) a b, Bx.off a b h.2 fun x hx => hl x (List.mem_cons_of_mem _ hx)⟩
/-- The box second in the list is written anew. -/
theorem Iv.upd2 {w W : World} {g g' : Nat} {q1 q2 p1 p2 : ByteArray} {l : List (Nat × ByteArray × ByteArray)} (h : Iv w ((g', q1, q2) :: (g, p1, p2) :: l) W) (h1 : Fresh w l g) (h2 : g < g') (u1 u2 : ByteArray) :
    Iv w ((g', q1, q2) :: (g, u1, u2) :: l) ((W.setCell ⟨g, 0, none⟩ (.string u1)).setCell ⟨g, 1, none⟩ (.string u2)) :=
  ⟨below_put h.1 h1.2 _ _, num_far h.2.1 (by omega) _ _, rat_put ⟨_, _, h.2.2.1⟩ u1 u2, Bx.off _ _ h.2.2.2 fun x hx => Nat.ne_of_lt (h1.1 x hx)⟩
/-- The first one. -/
theorem Iv.upd1 {w W : World} {g g' : Nat} {q1 q2 p1 p2 : ByteArray} {l : List (Nat × ByteArray × ByteArray)} (h : Iv w ((g', q1, q2) :: (g, p1, p2) :: l) W) (h1 : Fresh w l g) (h2 : g < g') (u1 u2 : ByteArray) :
    Iv w ((g', u1, u2) :: (g, p1, p2) :: l) ((W.setCell ⟨g', 0, none⟩ (.string u1)).setCell ⟨g', 1, none⟩ (.string u2)) :=
  ⟨below_put h.1 (Nat.le_trans h1.2 (Nat.le_of_lt h2)) _ _, rat_put ⟨_, _, h.2.1⟩ u1 u2, num_far h.2.2.1 (by omega) _ _, Bx.off _ _ h.2.2.2 fun x hx => Nat.ne_of_lt (Nat.lt_trans (h1.1 x hx) h2)⟩
theorem Iv.free {w W : World} {g : Nat} {n d : ByteArray} {l : List (Nat × ByteArray × ByteArray)} (h : Iv w ((g, n, d) :: l) W) : W.frozen? ⟨g, 0, none⟩ = false ∧ W.frozen? ⟨g, 1, none⟩ = false := ⟨(two_cells h.2.1).2.2.1, (two_cells h.2.1).2.2.2⟩
theorem Iv.free2 {w W : World} {g g' : Nat} {n d n' d' : ByteArray} {l : List (Nat × ByteArray × ByteArray)} (h : Iv w ((g', n', d') :: (g, n, d) :: l) W) : W.frozen? ⟨g, 0, none⟩ = false ∧ W.frozen? ⟨g, 1, none⟩ = false := ⟨(two_cells h.2.2.1).2.2.1, (two_cells h.2.2.1).2.2.2⟩
set_option maxRecDepth 1000000 in
set_option maxHeartbeats 40000000 in
theorem order_walk (x0 x1 x2 x3 y0 y1 y2 y3 z0 z1 z2 z3 s0 s1 : Int) (hx0 : I64 x0) (hx1 : I64 x1) (hx2 : I64 x2) (hx3 : I64 x3) (hy0 : I64 y0) (hy1 : I64 y1) (hy2 : I64 y2) (hy3 : I64 y3) (hz0 : I64 z0) (hz1 : I64 z1) (hz2 : I64 z2) (hz3 : I64 z3) (hs0 : I64 s0) (hs1 : I64 s1) (w : World) (ht : Tab w)
    (hsane : ∀ W, Tab W → Calls Tryz.prog 11 #[] W fun e w' => e = .returned (.bool true) ∧ Below W.heap.size W w') :
    Calls Tryz.prog 7 #[.agg #[.int .i64 x0, .int .i64 x1, .int .i64 x2, .int .i64 x3], .agg #[.int .i64 y0, .int .i64 y1, .int .i64 y2, .int .i64 y3], .agg #[.int .i64 z0, .int .i64 z1, .int .i64 z2, .int .i64 z3], .agg #[.int .i64 s0, .int .i64 s1]] w fun e w' => e = .returned (.bool true) ∧ Below w.heap.size w w' := by
  have cX := fun W => long_nd x0 x1 x2 x3 hx0 hx1 hx2 hx3 W
  have cY := fun W => long_nd y0 y1 y2 y3 hy0 hy1 hy2 hy3 W
  have cZ := fun W => long_nd z0 z1 z2 z3 hz0 hz1 hz2 hz3 W
  have cT := fun W => small_go s0 s1 hs0 hs1 W
  obtain ⟨t, htt⟩ : ∃ t, t = smQ s0 s1 := ⟨_, rfl⟩
  have ok : okO (some t) = true := by
    have p0 := pkI_lo (c := s0) (n := 1999) (by decide)
    have p1 := pkI_hi (c := s0) (n := 1999) (by decide)
    have q0 := pkI_lo (c := s1) (n := 60) (by decide)
    have q1 := pkI_hi (c := s1) (n := 60) (by decide)
    rw [htt]
    exact ok_divInt (fits_tiny (by omega)) (fits_tiny (by omega)) (by omega)
  have cO := fun (N1 D1 N2 D2 N3 D3 : ByteArray) (h1 : LQ N1 D1) (h2 : LQ N2 D2) (h3 : LQ N3 D3) => ord_all h1 h2 h3 ok
  rw [← htt] at cT
  unfold qv rv qtN qtD at cT
  simp only at cT
  generalize dec t.num = N4 at *
  generalize dec (t.den : Int) = D4 at *
  have a0 : AR w (A4 x0 x1 x2 x3) (A4 y0 y1 y2 y3) (A4 z0 z1 z2 z3) #[.int .i64 s0, .int .i64 s1] ((((w.alloc (.cells (A4 x0 x1 x2 x3) 24)).alloc (.cells (A4 y0 y1 y2 y3) 24)).alloc (.cells (A4 z0 z1 z2 z3) 24)).alloc (.cells #[.int .i64 s0, .int .i64 s1] 25)) :=
    ⟨(((Row.made w _ _).later _).later _).later _, ((Row.made_at _ _ _ (by simp)).later _).later _, (Row.made_at _ _ _ (by simp)).later _, Row.made_at _ _ _ (by simp)⟩
  have v0 : Iv w [] ((((w.alloc (.cells (A4 x0 x1 x2 x3) 24)).alloc (.cells (A4 y0 y1 y2 y3) 24)).alloc (.cells (A4 z0 z1 z2 z3) 24)).alloc (.cells #[.int .i64 s0, .int .i64 s1] 25)) := ⟨keep_alloc (keep_alloc (keep_alloc (below_alloc w _) _) _) _, trivial⟩
  have T0 := Lib.hid ht; have CS := Lib.hid hsane; have CX := Lib.hid cX; have CY := Lib.hid cY; have CZ := Lib.hid cZ; have CT := Lib.hid cT; have CO := Lib.hid cO; have CI := Lib.hid is_of; have V0 := v0; have A0 := Lib.hid a0; have P0 := Lib.hid (ht.below v0.b)
  clear ht hsane cX cY cZ cT cO a0 v0 ok htt hx0 hx1 hx2 hx3 hy0 hy1 hy2 hy3 hz0 hz1 hz2 hz3 hs0 hs1
  go_enter Tryz.func7, Tryz.ntmps7
  go_upto_region 9 with (first
    | (go_at_call 11; (with_reducible refine (CS.out _ P0.out).mono ?_); rintro e w1 ⟨rfl, b1⟩; have V1 := Iv.step V0 b1; have P1 := Lib.hid (T0.out.below (Iv.b V1)); have A1 := Lib.hid (AR.over A0.out b1); obtain ⟨ca0, ca1, ca2, ca3⟩ := four_cells A1.out.1)
    | (go_at_call 13; (with_reducible refine (CX.out _).mono ?_); rintro e w2 ⟨N1, D1, rfl, hL1, b2⟩; have V2 := Iv.push (Iv.step V1 b2) N1 D1; have A2 := Lib.hid (AR.over (AR.over A1.out b2) (below_alloc w2 (.cells #[.string N1, .string D1] 23))); obtain ⟨cb0, cb1, cb2, cb3⟩ := four_cells A2.out.2.1; clear ca0 ca1 ca2 ca3)
    | (go_at_call 13; (with_reducible refine (CY.out _).mono ?_); rintro e w3 ⟨N2, D2, rfl, hL2, b3⟩; have V3 := Iv.push (Iv.step V2 b3) N2 D2; have A3 := Lib.hid (AR.over (AR.over A2.out b3) (below_alloc w3 (.cells #[.string N2, .string D2] 23))); obtain ⟨cc0, cc1, cc2, cc3⟩ := four_cells A3.out.2.2.1; clear cb0 cb1 cb2 cb3)
    | (go_at_call 13; (with_reducible refine (CZ.out _).mono ?_); rintro e w4 ⟨N3, D3, rfl, hL3, b4⟩; have V4 := Iv.push (Iv.step V3 b4) N3 D3; have A4 := Lib.hid (AR.over (AR.over A3.out b4) (below_alloc w4 (.cells #[.string N3, .string D3] 23))); obtain ⟨cd0, cd1, _, _⟩ := two_cells A4.out.2.2.2; clear cc0 cc1 cc2 cc3)
    | (go_at_call 14; (with_reducible refine (CT.out _).mono ?_); rintro e w5 ⟨rfl, b5⟩; have V5 := Iv.push (Iv.step V4 b5) N4 D4; obtain ⟨ab, bc, ac, tc, f1, f2, f3, f4, f5, f6, f7, f8, f9, f10, f11⟩ := CO.out N1 D1 N2 D2 N3 D3 hL1 hL2 hL3; have F1 := Lib.hid f1; have F2 := Lib.hid f2; have F3 := Lib.hid f3; have F4 := Lib.hid f4; have F5 := Lib.hid f5; have F6 := Lib.hid f6; have F7 := Lib.hid (And.intro f7 (And.intro f8 (And.intro f9 (And.intro f10 f11)))); clear f1 f2 f3 f4 f5 f6 f7 f8 f9 f10 f11 cd0 cd1; have P5 := Lib.hid (T0.out.below (Iv.b V5)); have q5 := Iv.eqs V5; simp only [Cx] at q5)
    | (go_at_call 20; (with_reducible refine (F1.out _ P5.out).mono ?_); rintro e w6 ⟨rfl, b6⟩; have V6 := Iv.step V5 b6; have P6 := Lib.hid (T0.out.below (Iv.b V6)); have q6 := Iv.eqs V6; simp only [Cx] at q6; clear q5)
    | (go_at_call 20; (with_reducible refine (F2.out _ P6.out).mono ?_); rintro e w7 ⟨rfl, b7⟩; have V7 := Iv.step V6 b7; have P7 := Lib.hid (T0.out.below (Iv.b V7)); have q7 := Iv.eqs V7; simp only [Cx] at q7; clear q6)
    | (go_at_call 20; (with_reducible refine (F3.out _ P7.out).mono ?_); rintro e w8 ⟨rfl, b8⟩; have V8 := Iv.step V7 b8; have P8 := Lib.hid (T0.out.below (Iv.b V8)); have q8 := Iv.eqs V8; simp only [Cx] at q8; clear q7)
    | fail)
  clear V0 V1 V2 V3 V4 V5 V6 V7 P0 P1 P5 P6 P7 b1 b2 b3 b4 b5 b6 b7 b8 CS CX CY CZ CT CO F1 F2 F3 A0 A1 A2 A3 A4 hL1 hL2 hL3
  go_cut [92] (fun s92 W => s92 = .bool false ∧ Iv w ((w5.heap.size, N4, D4) :: (w4.heap.size, N3, D3) :: (w3.heap.size, N2, D2) :: (w2.heap.size, N1, D1) :: []) W)
  case first =>
    obtain ⟨h1, _, h3, h4, h5⟩ := F7.out
    have hne : ab ≠ 0 → (¬ N1 = N2) ∨ (N1 = N2 ∧ ¬ D1 = D2) := fun h => by
      by_cases e : N1 = N2
      · exact Or.inr ⟨e, fun e2 => h (h3.2 ⟨e, e2⟩)⟩
      · exact Or.inl e
    have hbc : (¬ bc ≤ 0 ∧ ¬ bc < 0) ∨ (bc ≤ 0 ∧ ¬ bc < 0) ∨ (bc ≤ 0 ∧ bc < 0) := by omega
    have hac1 : ab ≤ 0 → bc ≤ 0 → ¬ 0 < ac := fun p q => by have := h4 p q; omega
    have hac2 : ab ≤ 0 → bc < 0 → ¬ 0 ≤ ac := fun p q => by have := h5 p q; omega
    clear h4 h5 F7
    have gk := fun d os => Iv.eqs (Iv.step V8 (below_regrown _ d os))
    have g4 := fun d os => (gk d os).2.2.2.2.1
    have g5 := fun d os => (gk d os).2.2.2.2.2.1
    have g6 := fun d os => (gk d os).2.2.2.2.2.2.1
    have g7 := fun d os => (gk d os).2.2.2.2.2.2.2.1
    clear gk
    clear q8
    rcases h1 with h1 | h1 | h1
    · subst h1
      clear h3
      rcases hne (by decide) with e | ⟨e, e2⟩
      · have n1 := ne_list e
        clear e
        rcases hbc with ⟨u1, u2⟩ | ⟨u1, u2⟩ | ⟨u1, u2⟩
        · have v1 : decide (bc ≤ 0) = false := decide_eq_false u1
          have v2 : decide (bc < 0) = false := decide_eq_false u2
          clear hac1 hac2
          refine wp_region_quiet_forced ?_
          repeat (go_big_quiet_step (first | (go_at_call 20; with_reducible exact Calls.regrown_of (F4.out _ (P8.out.below (below_regrown _ _ _)))) | (go_at_call 20; with_reducible exact Calls.regrown_of (F5.out _ (P8.out.below (below_regrown _ _ _))))))
          refine wpQuiet_nil ?_; intro _ hw'; obtain ⟨⟨dq, osq⟩, hw''⟩ := hw'; subst hw''
          go_wp2_with fail
          go_meet
          case rel => exact ⟨rfl, Iv.step V8 (below_regrown _ _ _)⟩
        · have v1 : decide (bc ≤ 0) = true := decide_eq_true u1
          have v2 : decide (bc < 0) = false := decide_eq_false u2
          have u3 := hac1 (by decide) u1
          have v3 : decide (0 < ac) = false := decide_eq_false u3
          have v5 : decide (ac > 0) = false := decide_eq_false u3
          clear hac1 hac2
          refine wp_region_quiet_forced ?_
          repeat (go_big_quiet_step (first | (go_at_call 20; with_reducible exact Calls.regrown_of (F4.out _ (P8.out.below (below_regrown _ _ _)))) | (go_at_call 20; with_reducible exact Calls.regrown_of (F5.out _ (P8.out.below (below_regrown _ _ _))))))
          refine wpQuiet_nil ?_; intro _ hw'; obtain ⟨⟨dq, osq⟩, hw''⟩ := hw'; subst hw''
          go_wp2_with fail
          go_meet
          case rel => exact ⟨rfl, Iv.step V8 (below_regrown _ _ _)⟩
        · have v1 : decide (bc ≤ 0) = true := decide_eq_true u1
          have v2 : decide (bc < 0) = true := decide_eq_true u2
          have u3 := hac1 (by decide) u1
          have u4 := hac2 (by decide) u2
          have v3 : decide (0 < ac) = false := decide_eq_false u3
          have v5 : decide (ac > 0) = false := decide_eq_false u3
          have v4 : decide (0 ≤ ac) = false := decide_eq_false u4
          have v6 : decide (ac ≥ 0) = false := decide_eq_false u4
          clear hac1 hac2
          refine wp_region_quiet_forced ?_
          repeat (go_big_quiet_step (first | (go_at_call 20; with_reducible exact Calls.regrown_of (F4.out _ (P8.out.below (below_regrown _ _ _)))) | (go_at_call 20; with_reducible exact Calls.regrown_of (F5.out _ (P8.out.below (below_regrown _ _ _))))))
          refine wpQuiet_nil ?_; intro _ hw'; obtain ⟨⟨dq, osq⟩, hw''⟩ := hw'; subst hw''
          go_wp2_with fail
          go_meet
          case rel => exact ⟨rfl, Iv.step V8 (below_regrown _ _ _)⟩
      · subst e
        have n1 := ne_list e2
        clear e2
        rcases hbc with ⟨u1, u2⟩ | ⟨u1, u2⟩ | ⟨u1, u2⟩
        · have v1 : decide (bc ≤ 0) = false := decide_eq_false u1
          have v2 : decide (bc < 0) = false := decide_eq_false u2
          clear hac1 hac2
          refine wp_region_quiet_forced ?_
          repeat (go_big_quiet_step (first | (go_at_call 20; with_reducible exact Calls.regrown_of (F4.out _ (P8.out.below (below_regrown _ _ _)))) | (go_at_call 20; with_reducible exact Calls.regrown_of (F5.out _ (P8.out.below (below_regrown _ _ _))))))
          refine wpQuiet_nil ?_; intro _ hw'; obtain ⟨⟨dq, osq⟩, hw''⟩ := hw'; subst hw''
          go_wp2_with fail
          go_meet
          case rel => exact ⟨rfl, Iv.step V8 (below_regrown _ _ _)⟩
        · have v1 : decide (bc ≤ 0) = true := decide_eq_true u1
          have v2 : decide (bc < 0) = false := decide_eq_false u2
          have u3 := hac1 (by decide) u1
          have v3 : decide (0 < ac) = false := decide_eq_false u3
          have v5 : decide (ac > 0) = false := decide_eq_false u3
          clear hac1 hac2
          refine wp_region_quiet_forced ?_
          repeat (go_big_quiet_step (first | (go_at_call 20; with_reducible exact Calls.regrown_of (F4.out _ (P8.out.below (below_regrown _ _ _)))) | (go_at_call 20; with_reducible exact Calls.regrown_of (F5.out _ (P8.out.below (below_regrown _ _ _))))))
          refine wpQuiet_nil ?_; intro _ hw'; obtain ⟨⟨dq, osq⟩, hw''⟩ := hw'; subst hw''
          go_wp2_with fail
          go_meet
          case rel => exact ⟨rfl, Iv.step V8 (below_regrown _ _ _)⟩
        · have v1 : decide (bc ≤ 0) = true := decide_eq_true u1
          have v2 : decide (bc < 0) = true := decide_eq_true u2
          have u3 := hac1 (by decide) u1
          have u4 := hac2 (by decide) u2
          have v3 : decide (0 < ac) = false := decide_eq_false u3
          have v5 : decide (ac > 0) = false := decide_eq_false u3
          have v4 : decide (0 ≤ ac) = false := decide_eq_false u4
          have v6 : decide (ac ≥ 0) = false := decide_eq_false u4
          clear hac1 hac2
          refine wp_region_quiet_forced ?_
          repeat (go_big_quiet_step (first | (go_at_call 20; with_reducible exact Calls.regrown_of (F4.out _ (P8.out.below (below_regrown _ _ _)))) | (go_at_call 20; with_reducible exact Calls.regrown_of (F5.out _ (P8.out.below (below_regrown _ _ _))))))
          refine wpQuiet_nil ?_; intro _ hw'; obtain ⟨⟨dq, osq⟩, hw''⟩ := hw'; subst hw''
          go_wp2_with fail
          go_meet
          case rel => exact ⟨rfl, Iv.step V8 (below_regrown _ _ _)⟩
    · obtain ⟨e1, e2⟩ := h3.1 h1
      subst h1 e1 e2
      clear h3 hne
      rcases hbc with ⟨u1, u2⟩ | ⟨u1, u2⟩ | ⟨u1, u2⟩
      · have v1 : decide (bc ≤ 0) = false := decide_eq_false u1
        have v2 : decide (bc < 0) = false := decide_eq_false u2
        clear hac1 hac2
        refine wp_region_quiet_forced ?_
        repeat (go_big_quiet_step (first | (go_at_call 20; with_reducible exact Calls.regrown_of (F4.out _ (P8.out.below (below_regrown _ _ _)))) | (go_at_call 20; with_reducible exact Calls.regrown_of (F5.out _ (P8.out.below (below_regrown _ _ _))))))
        refine wpQuiet_nil ?_; intro _ hw'; obtain ⟨⟨dq, osq⟩, hw''⟩ := hw'; subst hw''
        go_wp2_with fail
        go_meet
        case rel => exact ⟨rfl, Iv.step V8 (below_regrown _ _ _)⟩
      · have v1 : decide (bc ≤ 0) = true := decide_eq_true u1
        have v2 : decide (bc < 0) = false := decide_eq_false u2
        have u3 := hac1 (by decide) u1
        have v3 : decide (0 < ac) = false := decide_eq_false u3
        have v5 : decide (ac > 0) = false := decide_eq_false u3
        clear hac1 hac2
        refine wp_region_quiet_forced ?_
        repeat (go_big_quiet_step (first | (go_at_call 20; with_reducible exact Calls.regrown_of (F4.out _ (P8.out.below (below_regrown _ _ _)))) | (go_at_call 20; with_reducible exact Calls.regrown_of (F5.out _ (P8.out.below (below_regrown _ _ _))))))
        refine wpQuiet_nil ?_; intro _ hw'; obtain ⟨⟨dq, osq⟩, hw''⟩ := hw'; subst hw''
        go_wp2_with fail
        go_meet
        case rel => exact ⟨rfl, Iv.step V8 (below_regrown _ _ _)⟩
      · have v1 : decide (bc ≤ 0) = true := decide_eq_true u1
        have v2 : decide (bc < 0) = true := decide_eq_true u2
        have u3 := hac1 (by decide) u1
        have u4 := hac2 (by decide) u2
        have v3 : decide (0 < ac) = false := decide_eq_false u3
        have v5 : decide (ac > 0) = false := decide_eq_false u3
        have v4 : decide (0 ≤ ac) = false := decide_eq_false u4
        have v6 : decide (ac ≥ 0) = false := decide_eq_false u4
        clear hac1 hac2
        refine wp_region_quiet_forced ?_
        repeat (go_big_quiet_step (first | (go_at_call 20; with_reducible exact Calls.regrown_of (F4.out _ (P8.out.below (below_regrown _ _ _)))) | (go_at_call 20; with_reducible exact Calls.regrown_of (F5.out _ (P8.out.below (below_regrown _ _ _))))))
        refine wpQuiet_nil ?_; intro _ hw'; obtain ⟨⟨dq, osq⟩, hw''⟩ := hw'; subst hw''
        go_wp2_with fail
        go_meet
        case rel => exact ⟨rfl, Iv.step V8 (below_regrown _ _ _)⟩
    · subst h1
      clear h3 hac1 hac2 hbc
      rcases hne (by decide) with e | ⟨e, e2⟩
      · have n1 := ne_list e
        clear e
        refine wp_region_quiet_forced ?_
        repeat (go_big_quiet_step (first | (go_at_call 20; with_reducible exact Calls.regrown_of (F4.out _ (P8.out.below (below_regrown _ _ _)))) | (go_at_call 20; with_reducible exact Calls.regrown_of (F5.out _ (P8.out.below (below_regrown _ _ _))))))
        refine wpQuiet_nil ?_; intro _ hw'; obtain ⟨⟨dq, osq⟩, hw''⟩ := hw'; subst hw''
        go_wp2_with fail
        go_meet
        case rel => exact ⟨rfl, Iv.step V8 (below_regrown _ _ _)⟩
      · subst e
        have n1 := ne_list e2
        clear e2
        refine wp_region_quiet_forced ?_
        repeat (go_big_quiet_step (first | (go_at_call 20; with_reducible exact Calls.regrown_of (F4.out _ (P8.out.below (below_regrown _ _ _)))) | (go_at_call 20; with_reducible exact Calls.regrown_of (F5.out _ (P8.out.below (below_regrown _ _ _))))))
        refine wpQuiet_nil ?_; intro _ hw'; obtain ⟨⟨dq, osq⟩, hw''⟩ := hw'; subst hw''
        go_wp2_with fail
        go_meet
        case rel => exact ⟨rfl, Iv.step V8 (below_regrown _ _ _)⟩
  case rest =>
  obtain ⟨rfl, V11⟩ := hcut
  clear F4 F5
  have P11 := Lib.hid (T0.out.below (Iv.b V11)); have q11 := Iv.eqs V11; simp only [Cx] at q11
  obtain ⟨⟨S1, S2, E1, g1, g2, g3⟩, ⟨P1', P2', E2, Q1, Q2, E3, g4, g5, g6, g7, g8⟩, ⟨U1, U2, E4, X1, X2, E5, g9, g10, g11, g12, g13⟩, g14⟩ := F6.out
  have G1 := Lib.hid g1; have G3 := Lib.hid g3; have G4 := Lib.hid g4; have G6 := Lib.hid g6; have G8 := Lib.hid g8; have G9 := Lib.hid g9; have G11 := Lib.hid g11; have G13 := Lib.hid g13; have G14 := Lib.hid g14; have GE := Lib.hid (And.intro g2 (And.intro g5 (And.intro g7 (And.intro g10 g12))))
  clear g1 g2 g3 g4 g5 g6 g7 g8 g9 g10 g11 g12 g13 g14 F6
  go_upto_region 12 with (first
    | (go_at_call 40; (with_reducible refine (G1.out _ P11.out).mono ?_); rintro e w12 ⟨rfl, b12⟩; have V12 := Iv.push (Iv.step V11 b12) S1 S2; have P12 := Lib.hid (T0.out.below (Iv.b V12)))
    | fail)
  obtain ⟨WB, hWB⟩ : ∃ WB, WB = w12.alloc (.cells #[.string S1, .string S2] 23) := ⟨_, rfl⟩
  rw [← hWB] at V12 P12 ⊢
  clear hWB G1 b12 q11 V11 P11
  go_cut [107] (fun s107 W => s107 = .bool false ∧ Iv w ((w12.heap.size, S1, S2) :: (w5.heap.size, N4, D4) :: (w4.heap.size, N3, D3) :: (w3.heap.size, N2, D2) :: (w2.heap.size, N1, D1) :: []) W)
  case first =>
    have gk := fun d os => Iv.eqs (Iv.step V12 (below_regrown _ d os))
    have g0 := fun d os => (gk d os).1
    have g1 := fun d os => (gk d os).2.1
    clear gk
    rcases GE.out.1 with h | h
    · subst h
      have cc := G3.out rfl
      have CC := Lib.hid cc
      clear cc GE G3 G4 G6 G8 G9 G11 G13 G14
      refine wp_region_quiet_below (by kernel_rfl) (by kernel_rfl) ?_
      repeat (go_big_quiet_step (first | (go_at_call 41; with_reducible exact Calls.regrown_of (CI.out _ _ _)) | (go_at_call 20; with_reducible exact Calls.regrown_of (CC.out _ (P12.out.below (below_regrown _ _ _)))) | fail))
      refine wpQuiet_nil ?_; intro _ hw'; obtain ⟨⟨dq, osq⟩, hw''⟩ := hw'; subst hw''
      go_wp2_with fail
      go_meet
      case rel => exact ⟨rfl, Iv.step V12 (below_regrown _ _ _)⟩
    · subst h
      clear GE G3 G4 G6 G8 G9 G11 G13 G14
      refine wp_region_quiet_below (by kernel_rfl) (by kernel_rfl) ?_
      repeat (go_big_quiet_step (first | (go_at_call 41; with_reducible exact Calls.regrown_of (CI.out _ _ _)) | fail))
      refine wpQuiet_nil ?_; intro _ hw'; obtain ⟨⟨dq, osq⟩, hw''⟩ := hw'; subst hw''
      go_wp2_with fail
      go_meet
      case rel => exact ⟨rfl, Iv.step V12 (below_regrown _ _ _)⟩
  case rest =>
  obtain ⟨rfl, V13⟩ := hcut
  clear G3 V12 P12
  have P13 := Lib.hid (T0.out.below (Iv.b V13)); have q13 := Iv.eqs V13; simp only [Cx] at q13
  go_upto_region 16 with (first
    | (go_at_call 38; (with_reducible refine (G4.out _ P13.out).mono ?_); rintro e w14 ⟨rfl, b14⟩; have V14 := Iv.push (Iv.step V13 b14) P1' P2'; have P14 := Lib.hid (T0.out.below (Iv.b V14)); have q14 := Iv.eqs V14; simp only [Cx] at q14; have FR := Iv.new (Iv.step V13 b14); clear q13)
    | (go_at_call 38; (with_reducible refine (G6.out _ P14.out).mono ?_); rintro e w15 ⟨rfl, b15⟩; have V15 := Iv.push (Iv.step V14 b15) Q1 Q2; have P15 := Lib.hid (T0.out.below (Iv.b V15)); have q15 := Iv.eqs V15; simp only [Cx] at q15; have LT : w14.heap.size < w15.heap.size := (Iv.new (Iv.step V14 b15)).1 _ (List.mem_cons_self ..); clear q14)
    | fail)
  obtain ⟨WB, hWB⟩ : ∃ WB, WB = w15.alloc (.cells #[.string Q1, .string Q2] 23) := ⟨_, rfl⟩
  rw [← hWB] at V15 P15 q15 ⊢
  clear hWB G4 G6 b15 b14 V13 P13 V14 P14
  go_cut [132] (fun s132 W => s132 = .bool false ∧ Iv w ((w15.heap.size, Q1, Q2) :: (w14.heap.size, P1', P2') :: (w12.heap.size, S1, S2) :: (w5.heap.size, N4, D4) :: (w4.heap.size, N3, D3) :: (w3.heap.size, N2, D2) :: (w2.heap.size, N1, D1) :: []) W)
  case first =>
    rcases GE.out.2.1 with h | h
    · rcases GE.out.2.2.1 with h2 | h2
      · subst h h2
        have cc := G8.out rfl rfl
        have CC := Lib.hid cc
        clear cc GE G8 G9 G11 G13 G14
        go_wp2_with (first
          | (go_at_call 20; (with_reducible refine (CC.out _ P15.out).mono ?_); rintro e w16 ⟨rfl, b16⟩; have V16 := Iv.step V15 b16; have P16 := Lib.hid (T0.out.below (Iv.b V16)))
          | fail)
        go_meet
        case rel => exact ⟨rfl, V16⟩
      · subst h h2
        clear GE G8 G9 G11 G13 G14
        go_wp2_with fail
        go_meet
        case rel => exact ⟨rfl, V15⟩
    · subst h
      clear GE G8 G9 G11 G13 G14
      go_wp2_with fail
      go_meet
      case rel => exact ⟨rfl, V15⟩
  case rest =>
  obtain ⟨rfl, V17⟩ := hcut
  clear G8 V15 P15 q15
  have P17 := Lib.hid (T0.out.below (Iv.b V17)); have q17 := Iv.eqs V17; simp only [Cx] at q17
  go_upto_region 20 with (first
    | (go_at_call 39; (with_reducible refine (G9.out _ P17.out).mono ?_); rintro e w18 ⟨rfl, b18⟩; have H18 := Iv.step V17 b18; obtain ⟨fz0, fz1⟩ := Iv.free2 H18; have qq18 := Iv.eqs H18; simp only [Cx] at qq18; have V18 := Iv.upd2 H18 FR LT U1 U2; have P18 := Lib.hid (T0.out.below (Iv.b V18)); have q18 := Iv.eqs V18; simp only [Cx] at q18; clear q17)
    | (go_at_call 39; (with_reducible refine (G11.out _ P18.out).mono ?_); rintro e w19 ⟨rfl, b19⟩; have H19 := Iv.step V18 b19; obtain ⟨fy0, fy1⟩ := Iv.free H19; have qq19 := Iv.eqs H19; simp only [Cx] at qq19; have V19 := Iv.upd1 H19 FR LT X1 X2; have P19 := Lib.hid (T0.out.below (Iv.b V19)); clear q18 qq18 fz0 fz1)
    | fail)
  obtain ⟨WB, hWB⟩ : ∃ WB, WB = (w19.setCell ⟨w15.heap.size, 0, none⟩ (.string X1)).setCell ⟨w15.heap.size, 1, none⟩ (.string X2) := ⟨_, rfl⟩
  rw [← hWB] at V19 P19 ⊢
  clear hWB G9 G11 b19 b18 V18 P18 V17 P17 H18 H19 qq19 fy0 fy1 FR LT
  have gk := fun d os => Iv.eqs (Iv.step V19 (below_regrown _ d os))
  have g0 := fun d os => (gk d os).1
  have g1 := fun d os => (gk d os).2.1
  have g2 := fun d os => (gk d os).2.2.1
  have g3 := fun d os => (gk d os).2.2.2.1
  have g6 := fun d os => (gk d os).2.2.2.2.2.2.1
  have g7 := fun d os => (gk d os).2.2.2.2.2.2.2.1
  clear gk
  obtain ⟨hab, htc, _⟩ := F7.out
  have hm : IntKind.i64.wrap (ab * tc) = ab * tc := IntWalk.i64_in _ (by rcases hab with h | h | h <;> rcases htc with h2 | h2 | h2 <;> subst h h2 <;> decide)
  clear hab htc F7
  rcases GE.out.2.2.2.1 with h | h
  · rcases GE.out.2.2.2.2 with h2 | h2
    · subst h h2
      have cc := G13.out rfl rfl
      have CC := Lib.hid cc
      clear cc GE G13
      refine wp_region_quiet_below (by kernel_rfl) (by kernel_rfl) ?_
      repeat (go_big_quiet_step (first | (go_at_call 41; with_reducible exact Calls.regrown_of (CI.out _ _ _)) | (go_at_call 20; with_reducible exact Calls.regrown_of (CC.out _ (P19.out.below (below_regrown _ _ _)))) | (go_at_call 20; with_reducible exact Calls.regrown_of (G14.out _ (P19.out.below (below_regrown _ _ _)))) | fail))
      refine wpQuiet_nil ?_; intro _ hw'; obtain ⟨⟨dq, osq⟩, hw''⟩ := hw'; subst hw''
      go_wp2_with fail
      go_ret
      exact ⟨rfl, below_step V19.b (below_regrown _ _ _)⟩
    · subst h h2
      clear GE G13 G14
      refine wp_region_quiet_below (by kernel_rfl) (by kernel_rfl) ?_
      repeat (go_big_quiet_step (first | (go_at_call 41; with_reducible exact Calls.regrown_of (CI.out _ _ _)) | fail))
      refine wpQuiet_nil ?_; intro _ hw'; obtain ⟨⟨dq, osq⟩, hw''⟩ := hw'; subst hw''
      go_wp2_with fail
      go_ret
      exact ⟨rfl, below_step V19.b (below_regrown _ _ _)⟩
  · subst h
    clear GE G13 G14
    refine wp_region_quiet_below (by kernel_rfl) (by kernel_rfl) ?_
    repeat (go_big_quiet_step (first | (go_at_call 41; with_reducible exact Calls.regrown_of (CI.out _ _ _)) | fail))
    refine wpQuiet_nil ?_; intro _ hw'; obtain ⟨⟨dq, osq⟩, hw''⟩ := hw'; subst hw''
    go_wp2_with fail
    go_ret
    exact ⟨rfl, below_step V19.b (below_regrown _ _ _)⟩
end Go.Proofs.YtgpncnnlhhmjaaaGreatDoor
