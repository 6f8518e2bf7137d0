/- RationalGrid: the walk. -/
import Derived.Test.YtahijfoagielbaaGreatDoorGrdM
import Derived.Lib.QuietBelow
import Derived.BigQuiet
namespace Go.Proofs.YtahijfoagielbaaGreatDoor
open Go.RowKit

theorem tens_list (k : Nat) : (dec ((10 ^ k : Nat) : Int)).data.toList = 49 :: List.replicate k 48 := by rw [dec_tens, dec10]; simp [str]
theorem tens_snoc (k : Nat) : dec ((10 ^ k : Nat) : Int) ++ (⟨#[48]⟩ : ByteArray) = dec ((10 ^ (k + 1) : Nat) : Int) := by
  apply ext_list
  rw [tens_list]
  simp only [ByteArray.data_append, Array.toList_append, List.replicate_succ']
  rw [tens_list]
  rfl
theorem tens_size (k : Nat) : (dec ((10 ^ k : Nat) : Int)).size = k + 1 := by rw [size_list, tens_list]; simp
theorem tens_zero : dec ((10 ^ 0 : Nat) : Int) = ⟨#[49]⟩ := l1.symm
theorem Bx.off {W : World} {g : Nat} (a b : Value) : ∀ {l : List (Nat × ByteArray × ByteArray)}, Bx W l → (∀ x ∈ l, x.1 ≠ g) → Bx ((W.setCell ⟨g, 0, none⟩ a).setCell ⟨g, 1, none⟩ b) l
  | [], _, _ => trivial
  | (_, _, _) :: _, h, hl => ⟨num_far h.1 (fun e => hl _ (List.mem_cons_self ..) e.symm) a b, Bx.off a b h.2 fun x hx => hl x (List.mem_cons_of_mem _ hx)⟩
/-- The newest box is written anew. -/
theorem Iv.head {w W : World} {g : Nat} {q1 q2 : ByteArray} {l : List (Nat × ByteArray × ByteArray)} (h : Iv w ((g, q1, q2) :: l) W) (hf : Fresh w l g) (u1 u2 : ByteArray) : Iv w ((g, u1, u2) :: l) ((W.setCell ⟨g, 0, none⟩ (.string u1)).setCell ⟨g, 1, none⟩ (.string u2)) :=
  ⟨below_put h.1 hf.2 _ _, rat_put ⟨_, _, h.2.1⟩ u1 u2, Bx.off _ _ h.2.2 fun x hx => Nat.ne_of_lt (hf.1 x hx)⟩
theorem Iv.free1 {w W : World} {g : Nat} {n d : ByteArray} {l : List (Nat × ByteArray × ByteArray)} (h : Iv w ((g, n, d) :: l) W) : W.frozen? ⟨g, 0, none⟩ = false ∧ W.frozen? ⟨g, 1, none⟩ = false := ⟨(two_cells h.2.1).2.2.1, (two_cells h.2.1).2.2.2⟩

set_option maxRecDepth 1000000 in
set_option maxHeartbeats 40000000 in
theorem grid_walk (x0 x1 x2 x3 places : Int) (hx0 : I64 x0) (hx1 : I64 x1) (hx2 : I64 x2) (hx3 : I64 x3) (hp : I64 places) (w : World) (ht : Tab w)
    (hsane : ∀ W, Tab W → Calls Tryz.prog 11 #[] W fun e w' => e = .returned (.bool true) ∧ Below W.heap.size W w') :
    Calls Tryz.prog 8 #[.agg #[.int .i64 x0, .int .i64 x1, .int .i64 x2, .int .i64 x3], .int .i64 places] w fun e w' => e = .returned (.bool true) ∧ Below w.heap.size w w' := by
  have cX := fun W => long_nd x0 x1 x2 x3 hx0 hx1 hx2 hx3 W
  have cP := fun W => pick_of places 31 (by decide) hp.1 hp.2 W
  have p0 := pkI_lo (c := places) (n := 31) (by decide)
  have p1 := pkI_hi (c := places) (n := 31) (by decide)
  generalize pkI places 31 = pp at *
  obtain ⟨p, rfl⟩ := Int.eq_ofNat_of_zero_le p0
  have hp30 : p ≤ 30 := by omega
  have cO := fun (N D : ByteArray) (h : LQ N D) => grd_all h hp30
  have v0 : Iv w [] (w.alloc (.cells #[.int .i64 x0, .int .i64 x1, .int .i64 x2, .int .i64 x3] 24)) := ⟨below_alloc w _, trivial⟩
  have r0 := Row.made w 24 #[.int .i64 x0, .int .i64 x1, .int .i64 x2, .int .i64 x3]
  have T0 := Lib.hid ht; have CS := Lib.hid hsane; have CX := Lib.hid cX; have CP := Lib.hid cP; have CO := Lib.hid cO; have CI := Lib.hid is_of; have V0 := v0; have R0 := Lib.hid r0; have P0 := Lib.hid (ht.below v0.b)
  clear ht hsane cX cP cO v0 r0 p0 p1 hx0 hx1 hx2 hx3 hp
  go_enter Tryz.func8, Tryz.ntmps8
  go_upto_region 6 with (first
    | (go_at_call 11; (with_reducible refine (CS.out _ P0.out).mono ?_); rintro e w1 ⟨rfl, b1⟩; have V1 := Iv.step V0 b1; have P1 := Lib.hid (T0.out.below (Iv.b V1)); obtain ⟨c0, c1, c2, c3⟩ := four_cells (Row.over R0.out b1))
    | (go_at_call 13; (with_reducible refine (CX.out _).mono ?_); rintro e w2 ⟨N, D, rfl, hL1, b2⟩; have V2 := Iv.push (Iv.step V1 b2) N D; obtain ⟨A1, A2, B1, B2, C1, C2, M1, M2, K1, Y1, Y2, ca, cb, f1, f2, f3, f4, f5, f6, f7, f8, f9, f10, f11, f12⟩ := CO.out N D hL1; have F1 := Lib.hid f1; have F2 := Lib.hid f2; have F3 := Lib.hid f3; have F4 := Lib.hid f4; have F5 := Lib.hid f5; have F6 := Lib.hid f6; have F7 := Lib.hid f7; have F8 := Lib.hid f8; have F9 := Lib.hid f9; have F10 := Lib.hid f10; have F11 := Lib.hid f11; have F12 := Lib.hid f12; clear f1 f2 f3 f4 f5 f6 f7 f8 f9 f10 f11 f12 hL1 c0 c1 c2 c3; have P2 := Lib.hid (T0.out.below (Iv.b V2)))
    | (go_at_call 22; (with_reducible refine (CP.out _).mono ?_); rintro e wx ⟨rfl, hwx⟩; have hwx := hwx.symm; subst hwx)
    | fail)
  obtain ⟨WA, hWA⟩ : ∃ WA, WA = w2.alloc (.cells #[.string N, .string D] 23) := ⟨_, rfl⟩
  rw [← hWA] at V2 P2 ⊢
  clear hWA V0 V1 P0 P1 b1 b2 CS CX CP CO R0
  have VA := Lib.hid V2
  clear V2 P2
  go_loopg [7, 8] p (fun kx s7 s8 wr => ∃ i : Nat, s8 = .int .i64 (i : Int) ∧ s7 = .string (dec ((10 ^ i : Nat) : Int)) ∧ i + kx = p ∧ Iv w ((w2.heap.size, N, D) :: []) wr)
  case atStart => exact ⟨0, rfl, by rw [tens_zero], by omega, VA.out⟩
  case round =>
    clear VA
    obtain ⟨i, rfl, rfl, hi, hv⟩ := hrel
    have VW := Lib.hid hv
    clear hv
    by_cases hip : i < p
    · have k1 : (i : Int) < (p : Int) := by omega
      have sz := tens_size i
      have sn := tens_snoc i
      have sz2 : ¬ 9223372036854775807 < (dec ((10 ^ i : Nat) : Int)).size + 1 := by omega
      have SN := Lib.hid sn
      clear sn sz
      generalize dec ((10 ^ i : Nat) : Int) = S at *
      go_wp2
      go_roundg (p - (i + 1))
      case measure => omega
      case rel => exact ⟨i + 1, by go_num, by rw [← SN.out], by omega, VW.out⟩
    · obtain rfl : i = p := by omega
      have k1 : ¬ (i : Int) < (i : Int) := by omega
      have tz : i = 0 → dec ((10 ^ i : Nat) : Int) = ⟨#[49]⟩ := fun h => by rw [h]; exact tens_zero
      have V2 := VW.out
      have P2 := Lib.hid (T0.out.below (Iv.b V2))
      have q2 := Iv.eqs V2
      simp only [Cx] at q2
      generalize dec ((10 ^ i : Nat) : Int) = T at *
      have TZ := Lib.hid tz
      clear tz VW
      go_upto_region 12 with (first
        | (go_at_call 23; (with_reducible refine (F1.out _ P2.out).mono ?_); rintro e w3 ⟨rfl, b3⟩; have V3 := Iv.push (Iv.step V2 b3) A1 A2; have P3 := Lib.hid (T0.out.below (Iv.b V3)); have q3 := Iv.eqs V3; simp only [Cx] at q3; clear q2)
        | (go_at_call 25; (with_reducible refine (F2.out _ P3.out).mono ?_); rintro e w4 ⟨rfl, b4⟩; have V4 := Iv.push (Iv.step V3 b4) B1 B2; have P4 := Lib.hid (T0.out.below (Iv.b V4)); have q4 := Iv.eqs V4; simp only [Cx] at q4; clear q3)
        | (go_at_call 42; (with_reducible refine (F3.out _ P4.out).mono ?_); rintro e w5 ⟨rfl, b5⟩; have V5 := Iv.step V4 b5; have P5 := Lib.hid (T0.out.below (Iv.b V5)); have q5 := Iv.eqs V5; simp only [Cx] at q5; clear q4)
        | (go_at_call 23; (with_reducible refine (F4.out _ P5.out).mono ?_); rintro e w6 ⟨rfl, b6⟩; have V6 := Iv.push (Iv.step V5 b6) C1 C2; have P6 := Lib.hid (T0.out.below (Iv.b V6)); have q6 := Iv.eqs V6; simp only [Cx] at q6; clear q5)
        | fail)
      obtain ⟨WB, hWB⟩ : ∃ WB, WB = w6.alloc (.cells #[.string C1, .string C2] 23) := ⟨_, rfl⟩
      rw [← hWB] at V6 P6 ⊢
      clear hWB q6 V2 V3 V4 V5 P2 P3 P4 P5 b3 b4 b5 b6 F1 F2 F3 F4
      rcases F12.out with ⟨rfl, rfl, rfl, rfl⟩ | ⟨rfl, rfl, rfl, hY⟩
      · clear F12
        go_cut [83] (fun s83 W => s83 = .bool false ∧ Iv w ((w6.heap.size, C1, C2) :: (w4.heap.size, B1, B2) :: (w3.heap.size, A1, A2) :: (w2.heap.size, N, D) :: []) W)
        case first =>
          have gk := fun d os => Iv.eqs (Iv.step V6 (below_regrown _ d os))
          have g0 := fun d os => (gk d os).1
          have g1 := fun d os => (gk d os).2.1
          have g2 := fun d os => (gk d os).2.2.1
          have g3 := fun d os => (gk d os).2.2.2.1
          have g4 := fun d os => (gk d os).2.2.2.2.1
          have g5 := fun d os => (gk d os).2.2.2.2.2.1
          have g6 := fun d os => (gk d os).2.2.2.2.2.2.1
          have g7 := fun d os => (gk d os).2.2.2.2.2.2.2.1
          clear gk
          refine wp_region_quiet_below (by kernel_rfl) (by kernel_rfl) ?_
          repeat (go_big_quiet_step (first | (go_at_call 42; with_reducible exact Calls.regrown_of (F5.out _ (P6.out.below (below_regrown _ _ _)))) | (go_at_call 20; with_reducible exact Calls.regrown_of (F6.out _ (P6.out.below (below_regrown _ _ _)))) | (go_at_call 20; with_reducible exact Calls.regrown_of (F7.out _ (P6.out.below (below_regrown _ _ _))))))
          refine wpQuiet_nil ?_
          intro _ hw'
          obtain ⟨⟨dq, osq⟩, hw''⟩ := hw'
          subst hw''
          go_wp2_with fail
          go_meet
          case rel => exact ⟨rfl, Iv.step V6 (below_regrown _ _ _)⟩
        case rest =>
        obtain ⟨rfl, V7⟩ := hcut
        clear V6 P6 F5
        have P7 := Lib.hid (T0.out.below (Iv.b V7))
        have q7 := Iv.eqs V7
        simp only [Cx] at q7
        go_upto_region 16 with (first
          | (go_at_call 23; (with_reducible refine (F8.out _ P7.out).mono ?_); rintro e w8 ⟨rfl, b8⟩; have V8 := Iv.push (Iv.step V7 b8) B1 B2; have P8 := Lib.hid (T0.out.below (Iv.b V8)); have q8 := Iv.eqs V8; simp only [Cx] at q8; clear q7)
          | (go_at_call 25; (with_reducible refine (F9.out _ P8.out).mono ?_); rintro e w9 ⟨rfl, b9⟩; have V9 := Iv.push (Iv.step V8 b9) A1 A2; have P9 := Lib.hid (T0.out.below (Iv.b V9)); have q9 := Iv.eqs V9; simp only [Cx] at q9; clear q8)
          | fail)
        clear q9
        obtain ⟨WA, hWA⟩ : ∃ WA, WA = w9.alloc (.cells #[.string A1, .string A2] 23) := ⟨_, rfl⟩
        rw [← hWA] at V9 ⊢
        clear hWA
        have FA := Iv.new V9
        have kk : ∀ W, Iv w ((w9.heap.size, A1, A2) :: (w8.heap.size, B1, B2) :: (w6.heap.size, C1, C2) :: (w4.heap.size, B1, B2) :: (w3.heap.size, A1, A2) :: (w2.heap.size, N, D) :: []) W → (Hid (Iv w ((w9.heap.size, A1, A2) :: (w8.heap.size, B1, B2) :: (w6.heap.size, C1, C2) :: (w4.heap.size, B1, B2) :: (w3.heap.size, A1, A2) :: (w2.heap.size, N, D) :: []) W) ∧ W.cell? ⟨w3.heap.size, 0, none⟩ = some (.string A1) ∧ W.cell? ⟨w3.heap.size, 1, none⟩ = some (.string A2)) := fun W h => ⟨Lib.hid h, (h.eqs.2.2.2.2.2.2.2.2).1, (h.eqs.2.2.2.2.2.2.2.2).2.1⟩
        have gg : ∀ W, (Hid (Iv w ((w9.heap.size, A1, A2) :: (w8.heap.size, B1, B2) :: (w6.heap.size, C1, C2) :: (w4.heap.size, B1, B2) :: (w3.heap.size, A1, A2) :: (w2.heap.size, N, D) :: []) W) ∧ W.cell? ⟨w3.heap.size, 0, none⟩ = some (.string A1) ∧ W.cell? ⟨w3.heap.size, 1, none⟩ = some (.string A2)) → Iv w ((w9.heap.size, A1, A2) :: (w8.heap.size, B1, B2) :: (w6.heap.size, C1, C2) :: (w4.heap.size, B1, B2) :: (w3.heap.size, A1, A2) :: (w2.heap.size, N, D) :: []) W := fun W h => h.1.out
        have KK := Lib.hid kk; have GG := Lib.hid gg; have HA := Lib.hid V9
        clear kk gg V9
        go_cut [19, 20] (fun s19 s20 W => ∃ g, s19 = .pointer (some ⟨g, 0, none⟩) ∧ s20 = .int .i64 0 ∧ Fresh w ((w9.heap.size, A1, A2) :: (w8.heap.size, B1, B2) :: (w6.heap.size, C1, C2) :: (w4.heap.size, B1, B2) :: (w3.heap.size, A1, A2) :: (w2.heap.size, N, D) :: []) g ∧ Iv w ((g, K1, ⟨#[49]⟩) :: (w9.heap.size, A1, A2) :: (w8.heap.size, B1, B2) :: (w6.heap.size, C1, C2) :: (w4.heap.size, B1, B2) :: (w3.heap.size, A1, A2) :: (w2.heap.size, N, D) :: []) W)
        case first =>
          go_region_held3 (fun W => Hid (Iv w ((w9.heap.size, A1, A2) :: (w8.heap.size, B1, B2) :: (w6.heap.size, C1, C2) :: (w4.heap.size, B1, B2) :: (w3.heap.size, A1, A2) :: (w2.heap.size, N, D) :: []) W) ∧ W.cell? ⟨w3.heap.size, 0, none⟩ = some (.string A1) ∧ W.cell? ⟨w3.heap.size, 1, none⟩ = some (.string A2))
            (first | assumption | exact KK.out _ HA.out.drew | exact KK.out _ (Iv.step (GG.out _ (by assumption)) (by assumption)) | exact KK.out _ (Iv.step (GG.out _ (by assumption)) (below_alloc _ _)) | exact KK.out _ (Iv.step HB (below_alloc _ _)) | exact KK.out _ (Iv.far (GG.out _ (by assumption)) (by assumption) _ _))
            (first
              | (go_at_call 41; ((refine (CI.out _ _ _).mono ?_); rintro e y6 ⟨rfl, z6⟩; have H6 := Iv.step (GG.out _ (by assumption)) z6; have F6 := Iv.new H6; try (have N6 := RAny.over (RAny.drew (RAny.made WA ⟨#[]⟩ ⟨#[]⟩)) z6)))
              | (go_at_call 39; ((refine (F10.out _ (T0.out.below (Iv.b (GG.out _ (by assumption))))).mono ?_); rintro e y7 ⟨rfl, z7⟩; have HB := Iv.step (GG.out _ (by assumption)) z7; have F7 := Iv.new HB; try (first | (have N7 := RAny.over N6 z7; obtain ⟨q0, q1, q2, q3⟩ := N7.eqs) | (have N7 := RAny.over (RAny.made y6 ⟨#[]⟩ ⟨#[]⟩) z7; obtain ⟨q0, q1, q2, q3⟩ := N7.eqs)))))
          all_goals go_wp2_with fail
          all_goals go_meet
          all_goals (case rel => first | exact ⟨_, rfl, rfl, F7, Iv.push HB K1 ⟨#[49]⟩⟩ | exact ⟨_, rfl, rfl, F6, Iv.put HB F6 N7 _ _⟩ | exact ⟨_, rfl, rfl, FA, Iv.put HB FA N7 _ _⟩)
        case rest =>
        clear HA FA KK GG
        obtain ⟨g19, rfl, rfl, fr19, V10⟩ := hcut
        have P10 := Lib.hid (T0.out.below (Iv.b V10))
        obtain ⟨w10, hw10⟩ : ∃ w10, w10 = wc := ⟨_, rfl⟩
        rw [← hw10] at V10 P10 ⊢
        clear hw10
        have q10 := Iv.eqs V10
        simp only [Cx] at q10
        go_upto_region 20 with (first
          | (go_at_call 40; (with_reducible refine (F11.out _ P10.out).mono ?_); rintro e w11 ⟨rfl, b11⟩; have V11 := Iv.push (Iv.step V10 b11) ⟨#[48]⟩ ⟨#[49]⟩; have P11 := Lib.hid (T0.out.below (Iv.b V11)); have q11 := Iv.eqs V11; simp only [Cx] at q11; clear q10)
          | (go_at_call 20; (with_reducible refine (F6.out _ P11.out).mono ?_); rintro e w12 ⟨rfl, b12⟩; have V12 := Iv.step V11 b12; have P12 := Lib.hid (T0.out.below (Iv.b V12)); have q12 := Iv.eqs V12; simp only [Cx] at q12; clear q11)
          | (go_at_call 41; (with_reducible refine (CI.out _ _ _).mono ?_); rintro e w13 ⟨rfl, b13⟩; have FR := Iv.new (Iv.step V12 b13); have V13 := Iv.push (Iv.step V12 b13) ⟨#[49]⟩ T; have P13 := Lib.hid (T0.out.below (Iv.b V13)); have q13 := Iv.eqs V13; simp only [Cx] at q13; clear q12)
          | fail)
        obtain ⟨WC, hWC⟩ : ∃ WC, WC = w13.alloc (.cells #[.string ⟨#[49]⟩, .string T] 23) := ⟨_, rfl⟩
        rw [← hWC] at V13 P13 q13 ⊢
        clear hWC
        by_cases hz : i = 0
        · have ht1 := TZ.out hz
          have ez : (i : Int) = 0 := by omega
          clear hz
          subst ht1
          go_wp2_with (first
            | (go_at_call 41; (with_reducible refine (CI.out _ _ _).mono ?_); rintro e w14 ⟨rfl, b14⟩; have H14 := Iv.step V13 b14; obtain ⟨z0, z1⟩ := Iv.free1 H14; have qq14 := Iv.eqs H14; simp only [Cx] at qq14; have V14 := Iv.head H14 FR ⟨#[49]⟩ ⟨#[49]⟩; have P14 := Lib.hid (T0.out.below (Iv.b V14)); have q14 := Iv.eqs V14; simp only [Cx] at q14; clear q13)
            | (go_at_call 41; (with_reducible refine (CI.out _ _ _).mono ?_); rintro e w15 ⟨rfl, b15⟩; have H15 := Iv.step V14 b15; obtain ⟨z0, z1⟩ := Iv.free1 H15; have qq15 := Iv.eqs H15; simp only [Cx] at qq15; have V15 := Iv.head H15 FR ⟨#[48]⟩ ⟨#[49]⟩; have P15 := Lib.hid (T0.out.below (Iv.b V15)); have q15 := Iv.eqs V15; simp only [Cx] at q15; clear q14)
            | (go_at_call 20; (with_reducible refine (F7.out _ P15.out).mono ?_); rintro e w16 ⟨rfl, b16⟩; have V16 := Iv.step V15 b16; have P16 := Lib.hid (T0.out.below (Iv.b V16)))
            | fail)
          go_ret
          exact ⟨rfl, Iv.b V16⟩
        · have ez : ¬ (i : Int) = 0 := by omega
          clear hz
          go_wp2_with (first
            | (go_at_call 41; (with_reducible refine (CI.out _ _ _).mono ?_); rintro e w14 ⟨rfl, b14⟩; have H14 := Iv.step V13 b14; obtain ⟨z0, z1⟩ := Iv.free1 H14; have qq14 := Iv.eqs H14; simp only [Cx] at qq14; have V14 := Iv.head H14 FR ⟨#[48]⟩ ⟨#[49]⟩; have P14 := Lib.hid (T0.out.below (Iv.b V14)); have q14 := Iv.eqs V14; simp only [Cx] at q14; clear q13)
            | (go_at_call 20; (with_reducible refine (F7.out _ P14.out).mono ?_); rintro e w15 ⟨rfl, b15⟩; have V15 := Iv.step V14 b15; have P15 := Lib.hid (T0.out.below (Iv.b V15)))
            | fail)
          go_ret
          exact ⟨rfl, Iv.b V15⟩
      · have hY2 := hY.symm
        subst hY2
        clear F12 hY
        go_cut [83] (fun s83 W => s83 = .bool false ∧ Iv w ((w6.heap.size, C1, C2) :: (w4.heap.size, B1, B2) :: (w3.heap.size, A1, A2) :: (w2.heap.size, N, D) :: []) W)
        case first =>
          have gk := fun d os => Iv.eqs (Iv.step V6 (below_regrown _ d os))
          have g0 := fun d os => (gk d os).1
          have g1 := fun d os => (gk d os).2.1
          have g2 := fun d os => (gk d os).2.2.1
          have g3 := fun d os => (gk d os).2.2.2.1
          have g4 := fun d os => (gk d os).2.2.2.2.1
          have g5 := fun d os => (gk d os).2.2.2.2.2.1
          have g6 := fun d os => (gk d os).2.2.2.2.2.2.1
          have g7 := fun d os => (gk d os).2.2.2.2.2.2.2.1
          clear gk
          refine wp_region_quiet_below (by kernel_rfl) (by kernel_rfl) ?_
          repeat (go_big_quiet_step (first | (go_at_call 42; with_reducible exact Calls.regrown_of (F5.out _ (P6.out.below (below_regrown _ _ _)))) | (go_at_call 20; with_reducible exact Calls.regrown_of (F6.out _ (P6.out.below (below_regrown _ _ _)))) | (go_at_call 20; with_reducible exact Calls.regrown_of (F7.out _ (P6.out.below (below_regrown _ _ _))))))
          refine wpQuiet_nil ?_
          intro _ hw'
          obtain ⟨⟨dq, osq⟩, hw''⟩ := hw'
          subst hw''
          go_wp2_with fail
          go_meet
          case rel => exact ⟨rfl, Iv.step V6 (below_regrown _ _ _)⟩
        case rest =>
        obtain ⟨rfl, V7⟩ := hcut
        clear V6 P6 F5
        have P7 := Lib.hid (T0.out.below (Iv.b V7))
        have q7 := Iv.eqs V7
        simp only [Cx] at q7
        go_upto_region 16 with (first
          | (go_at_call 23; (with_reducible refine (F8.out _ P7.out).mono ?_); rintro e w8 ⟨rfl, b8⟩; have V8 := Iv.push (Iv.step V7 b8) B1 B2; have P8 := Lib.hid (T0.out.below (Iv.b V8)); have q8 := Iv.eqs V8; simp only [Cx] at q8; clear q7)
          | (go_at_call 25; (with_reducible refine (F9.out _ P8.out).mono ?_); rintro e w9 ⟨rfl, b9⟩; have V9 := Iv.push (Iv.step V8 b9) A1 A2; have P9 := Lib.hid (T0.out.below (Iv.b V9)); have q9 := Iv.eqs V9; simp only [Cx] at q9; clear q8)
          | fail)
        clear q9
        obtain ⟨WA, hWA⟩ : ∃ WA, WA = w9.alloc (.cells #[.string A1, .string A2] 23) := ⟨_, rfl⟩
        rw [← hWA] at V9 ⊢
        clear hWA
        have FA := Iv.new V9
        have kk : ∀ W, Iv w ((w9.heap.size, A1, A2) :: (w8.heap.size, B1, B2) :: (w6.heap.size, C1, C2) :: (w4.heap.size, B1, B2) :: (w3.heap.size, A1, A2) :: (w2.heap.size, N, D) :: []) W → (Hid (Iv w ((w9.heap.size, A1, A2) :: (w8.heap.size, B1, B2) :: (w6.heap.size, C1, C2) :: (w4.heap.size, B1, B2) :: (w3.heap.size, A1, A2) :: (w2.heap.size, N, D) :: []) W) ∧ W.cell? ⟨w3.heap.size, 0, none⟩ = some (.string A1) ∧ W.cell? ⟨w3.heap.size, 1, none⟩ = some (.string A2)) := fun W h => ⟨Lib.hid h, (h.eqs.2.2.2.2.2.2.2.2).1, (h.eqs.2.2.2.2.2.2.2.2).2.1⟩
        have gg : ∀ W, (Hid (Iv w ((w9.heap.size, A1, A2) :: (w8.heap.size, B1, B2) :: (w6.heap.size, C1, C2) :: (w4.heap.size, B1, B2) :: (w3.heap.size, A1, A2) :: (w2.heap.size, N, D) :: []) W) ∧ W.cell? ⟨w3.heap.size, 0, none⟩ = some (.string A1) ∧ W.cell? ⟨w3.heap.size, 1, none⟩ = some (.string A2)) → Iv w ((w9.heap.size, A1, A2) :: (w8.heap.size, B1, B2) :: (w6.heap.size, C1, C2) :: (w4.heap.size, B1, B2) :: (w3.heap.size, A1, A2) :: (w2.heap.size, N, D) :: []) W := fun W h => h.1.out
        have KK := Lib.hid kk; have GG := Lib.hid gg; have HA := Lib.hid V9
        clear kk gg V9
        go_cut [19, 20] (fun s19 s20 W => ∃ g, s19 = .pointer (some ⟨g, 0, none⟩) ∧ s20 = .int .i64 0 ∧ Fresh w ((w9.heap.size, A1, A2) :: (w8.heap.size, B1, B2) :: (w6.heap.size, C1, C2) :: (w4.heap.size, B1, B2) :: (w3.heap.size, A1, A2) :: (w2.heap.size, N, D) :: []) g ∧ Iv w ((g, K1, ⟨#[49]⟩) :: (w9.heap.size, A1, A2) :: (w8.heap.size, B1, B2) :: (w6.heap.size, C1, C2) :: (w4.heap.size, B1, B2) :: (w3.heap.size, A1, A2) :: (w2.heap.size, N, D) :: []) W)
        case first =>
          go_region_held3 (fun W => Hid (Iv w ((w9.heap.size, A1, A2) :: (w8.heap.size, B1, B2) :: (w6.heap.size, C1, C2) :: (w4.heap.size, B1, B2) :: (w3.heap.size, A1, A2) :: (w2.heap.size, N, D) :: []) W) ∧ W.cell? ⟨w3.heap.size, 0, none⟩ = some (.string A1) ∧ W.cell? ⟨w3.heap.size, 1, none⟩ = some (.string A2))
            (first | assumption | exact KK.out _ HA.out.drew | exact KK.out _ (Iv.step (GG.out _ (by assumption)) (by assumption)) | exact KK.out _ (Iv.step (GG.out _ (by assumption)) (below_alloc _ _)) | exact KK.out _ (Iv.step HB (below_alloc _ _)) | exact KK.out _ (Iv.far (GG.out _ (by assumption)) (by assumption) _ _))
            (first
              | (go_at_call 41; ((refine (CI.out _ _ _).mono ?_); rintro e y6 ⟨rfl, z6⟩; have H6 := Iv.step (GG.out _ (by assumption)) z6; have F6 := Iv.new H6; try (have N6 := RAny.over (RAny.drew (RAny.made WA ⟨#[]⟩ ⟨#[]⟩)) z6)))
              | (go_at_call 39; ((refine (F10.out _ (T0.out.below (Iv.b (GG.out _ (by assumption))))).mono ?_); rintro e y7 ⟨rfl, z7⟩; have HB := Iv.step (GG.out _ (by assumption)) z7; have F7 := Iv.new HB; try (first | (have N7 := RAny.over N6 z7; obtain ⟨q0, q1, q2, q3⟩ := N7.eqs) | (have N7 := RAny.over (RAny.made y6 ⟨#[]⟩ ⟨#[]⟩) z7; obtain ⟨q0, q1, q2, q3⟩ := N7.eqs)))))
          all_goals go_wp2_with fail
          all_goals go_meet
          all_goals (case rel => first | exact ⟨_, rfl, rfl, F7, Iv.push HB K1 ⟨#[49]⟩⟩ | exact ⟨_, rfl, rfl, F6, Iv.put HB F6 N7 _ _⟩ | exact ⟨_, rfl, rfl, FA, Iv.put HB FA N7 _ _⟩)
        case rest =>
        clear HA FA KK GG
        obtain ⟨g19, rfl, rfl, fr19, V10⟩ := hcut
        have P10 := Lib.hid (T0.out.below (Iv.b V10))
        obtain ⟨w10, hw10⟩ : ∃ w10, w10 = wc := ⟨_, rfl⟩
        rw [← hw10] at V10 P10 ⊢
        clear hw10
        have q10 := Iv.eqs V10
        simp only [Cx] at q10
        go_upto_region 20 with (first
          | (go_at_call 40; (with_reducible refine (F11.out _ P10.out).mono ?_); rintro e w11 ⟨rfl, b11⟩; have V11 := Iv.push (Iv.step V10 b11) ⟨#[49]⟩ T; have P11 := Lib.hid (T0.out.below (Iv.b V11)); have q11 := Iv.eqs V11; simp only [Cx] at q11; clear q10)
          | (go_at_call 20; (with_reducible refine (F6.out _ P11.out).mono ?_); rintro e w12 ⟨rfl, b12⟩; have V12 := Iv.step V11 b12; have P12 := Lib.hid (T0.out.below (Iv.b V12)); have q12 := Iv.eqs V12; simp only [Cx] at q12; clear q11)
          | (go_at_call 41; (with_reducible refine (CI.out _ _ _).mono ?_); rintro e w13 ⟨rfl, b13⟩; have FR := Iv.new (Iv.step V12 b13); have V13 := Iv.push (Iv.step V12 b13) ⟨#[49]⟩ T; have P13 := Lib.hid (T0.out.below (Iv.b V13)); have q13 := Iv.eqs V13; simp only [Cx] at q13; clear q12)
          | fail)
        obtain ⟨WC, hWC⟩ : ∃ WC, WC = w13.alloc (.cells #[.string ⟨#[49]⟩, .string T] 23) := ⟨_, rfl⟩
        rw [← hWC] at V13 P13 q13 ⊢
        clear hWC
        by_cases hz : i = 0
        · have ht1 := TZ.out hz
          have ez : (i : Int) = 0 := by omega
          clear hz
          subst ht1
          go_wp2_with (first
            | (go_at_call 41; (with_reducible refine (CI.out _ _ _).mono ?_); rintro e w14 ⟨rfl, b14⟩; have H14 := Iv.step V13 b14; obtain ⟨z0, z1⟩ := Iv.free1 H14; have qq14 := Iv.eqs H14; simp only [Cx] at qq14; have V14 := Iv.head H14 FR ⟨#[49]⟩ ⟨#[49]⟩; have P14 := Lib.hid (T0.out.below (Iv.b V14)); have q14 := Iv.eqs V14; simp only [Cx] at q14; clear q13)
            | (go_at_call 20; (with_reducible refine (F7.out _ P14.out).mono ?_); rintro e w15 ⟨rfl, b15⟩; have V15 := Iv.step V14 b15; have P15 := Lib.hid (T0.out.below (Iv.b V15)))
            | fail)
          go_ret
          exact ⟨rfl, Iv.b V15⟩
        · have ez : ¬ (i : Int) = 0 := by omega
          clear hz
          go_wp2_with (first
            | (go_at_call 20; (with_reducible refine (F7.out _ P13.out).mono ?_); rintro e w14 ⟨rfl, b14⟩; have V14 := Iv.step V13 b14; have P14 := Lib.hid (T0.out.below (Iv.b V14)))
            | fail)
          go_ret
          exact ⟨rfl, Iv.b V14⟩
end Go.Proofs.YtahijfoagielbaaGreatDoor
