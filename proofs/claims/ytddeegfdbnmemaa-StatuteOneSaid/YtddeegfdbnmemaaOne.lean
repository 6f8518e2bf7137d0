/- StatuteOne: its walk. -/
import Derived.Test.YtddeegfdbnmemaaPx
import Derived.Test.YtddeegfdbnmemaaBp
namespace Go.Proofs.Ytddeegfdbnmemaa
open Go.RowKit Go.Sort Go.Lib

set_option maxRecDepth 100000 in
set_option maxHeartbeats 16000000 in
theorem one_walk (hsane : ∀ W : World, Calls Try.prog 9 #[] W fun e w' => e = .returned (.bool true) ∧ Below W.heap.size W w') (C : List Six) (CA : Option Addr) (Cc : Nat) (R : List Tri) (RA : Option Addr) (Rc : Nat) (F : List Six) (FA : Option Addr) (Fc : Nat) (a0 a1 a2 a3 : Int) (h0 h1 n0_ n1_ t0 t1 : Int) (L0 : List Fd) (LA : Option Addr) (lc : Nat) (hC : ∀ y ∈ C, In6 y) (hR : ∀ y ∈ R, In3 y) (hF : ∀ y ∈ F, In6 y) (lC : C.length ≤ 9223372036854775807) (lR : R.length ≤ 9223372036854775807) (lF : F.length ≤ 9223372036854775807) (i0 : In64 a0) (i1 : In64 a1) (i2 : In64 a2) (i3 : In64 a3) (ih0 : In64 h0) (ih1 : In64 h1) (it0 : In64 t0) (it1 : In64 t1) (l9 : L0.length ≤ 9223372036854775807) (lcap : L0.length ≤ lc) (w : World) (wC : Cells w w.heap.size CA 6 (C.map fun y => (sixL y).toArray)) (wR : Cells w w.heap.size RA 3 (R.map fun y => (triL y).toArray)) (wF : Cells w w.heap.size FA 6 (F.map fun y => (sixL y).toArray)) (wL : FdsC w LA L0) :
    Calls Try.prog 3 #[.agg #[.slice CA C.length Cc, .slice RA R.length Rc, .slice FA F.length Fc], .agg #[.int .i64 a0, .int .i64 a1, .int .i64 a2, .int .i64 a3], .agg #[.int .i64 h0, .int .i64 h1], .agg #[.int .i64 n0_, .int .i64 n1_], .agg #[.int .i64 t0, .int .i64 t1], .slice LA L0.length lc] w fun e w' => e = .returned (.bool true) ∧ Below w.heap.size w w' := by
  generalize hLL : L0.length = LL at *
  have ELL := Lib.hid hLL; have IH0 := Lib.hid ih0; have IH1 := Lib.hid ih1; have IT0 := Lib.hid it0; have IT1 := Lib.hid it1; have WL := Lib.hid wL
  clear hLL ih0 ih1 it0 it1 wL
  have hmad := made_bk C CA Cc R RA Rc F FA Fc hC hR hF lC lR lF w wC wR wF
  have hask := fun W => ask_ref a0 a1 a2 a3 i0 i1 i2 i3 W
  have hvb := made_valid C R F
  have hln := made_len C R F
  have haq := ask_asks a0 a1 a2 a3
  generalize hbb : madeB C R F = b at *
  generalize hqq : askI a0 a1 a2 a3 = q at *
  generalize hNC : b.cls.length = NC at *
  generalize hNR : b.rpl.length = NR at *
  generalize hNF : b.fct.length = NF at *
  generalize C.length = LC at *
  generalize R.length = LR at *
  generalize F.length = LF at *
  have SAN := Lib.hid hsane; have HMAD := Lib.hid hmad; have HASK := Lib.hid hask; have VB := Lib.hid hvb; have AQ := Lib.hid haq; have ENC := Lib.hid hNC; have ENR := Lib.hid hNR; have ENF := Lib.hid hNF; have EB := Lib.hid hbb; have EQ := Lib.hid hqq; have HLN := Lib.hid hln
  clear hsane hmad hask hvb haq hC hR hF lC lR lF wC wR wF i0 i1 i2 i3 hNC hNR hNF hbb hqq hln
  obtain ⟨W0, hW0⟩ : ∃ W0, W0 = (((((w.alloc (.cells #[.slice CA LC Cc, .slice RA LR Rc, .slice FA LF Fc] 25)).alloc (.cells #[.int .i64 a0, .int .i64 a1, .int .i64 a2, .int .i64 a3] 26)).alloc (.cells #[.int .i64 h0, .int .i64 h1] 27)).alloc (.cells #[.int .i64 n0_, .int .i64 n1_] 27)).alloc (.cells #[.int .i64 t0, .int .i64 t1] 27)) := ⟨_, rfl⟩
  have BW : Hid (Below w.heap.size w W0) := Lib.hid (by rw [hW0]; exact keep_alloc (keep_alloc (keep_alloc (keep_alloc (keep_alloc (Below.refl _ _) _) _) _) _) _)
  have X : Hid (Row W0 (w.heap.size) 25 #[.slice CA LC Cc, .slice RA LR Rc, .slice FA LF Fc]) := Lib.hid (by rw [hW0]; exact ((((Row.made _ _ _).later _).later _).later _).later _)
  have Y : Hid (Row W0 (w.heap.size + 1) 26 #[.int .i64 a0, .int .i64 a1, .int .i64 a2, .int .i64 a3]) := Lib.hid (by rw [hW0]; exact (((Row.made_at _ _ _ (by simp)).later _).later _).later _)
  have H : Hid (Row W0 (w.heap.size + 1 + 1) 27 #[.int .i64 h0, .int .i64 h1]) := Lib.hid (by rw [hW0]; exact ((Row.made_at _ _ _ (by simp)).later _).later _)
  have M : Hid (Row W0 (w.heap.size + 1 + 1 + 1) 27 #[.int .i64 n0_, .int .i64 n1_]) := Lib.hid (by rw [hW0]; exact (Row.made_at _ _ _ (by simp)).later _)
  have T : Hid (Row W0 (w.heap.size + 1 + 1 + 1 + 1) 27 #[.int .i64 t0, .int .i64 t1]) := Lib.hid (by rw [hW0]; exact Row.made_at _ _ _ (by simp))
  go_enter Try.func3, Try.ntmps3
  go_upto_region 1 with (fail)
  rw [← hW0]
  clear hW0
  go_upto_region 3 with (go_at_call 9; (with_reducible refine (SAN.out _).mono ?_); rintro e w1 ⟨rfl, b⟩; replace X := Lib.hid (X.out.step b); replace Y := Lib.hid (Y.out.step b); replace H := Lib.hid (H.out.step b); replace M := Lib.hid (M.out.step b); replace T := Lib.hid (T.out.step b); replace BW := Lib.hid (below_step BW.out b); clear b)
  obtain ⟨x0, x1, x2, _, _, _⟩ := X.out.three
  go_upto_region 4 with (go_at_call 10; (with_reducible refine (HMAD.out _ BW.out).mono ?_); rintro e w2 ⟨A1, c1, A2, c2, A3, c3, rfl, bk, b⟩; replace X := Lib.hid (X.out.step b); replace Y := Lib.hid (Y.out.step b); replace H := Lib.hid (H.out.step b); replace M := Lib.hid (M.out.step b); replace T := Lib.hid (T.out.step b); replace BW := Lib.hid (below_step BW.out b); have BK := Lib.hid bk; clear b bk)
  obtain ⟨W2, hW2⟩ : ∃ W, W = w2.alloc (.cells #[.slice A1 NC c1, .slice A2 NR c2, .slice A3 NF c3] 34) := ⟨_, rfl⟩
  rw [← hW2]
  have b : Below w2.heap.size w2 W2 := by rw [hW2]; exact below_alloc _ _
  have CR : Hid (Row W2 w2.heap.size 34 #[.slice A1 NC c1, .slice A2 NR c2, .slice A3 NF c3]) := Lib.hid (by rw [hW2]; exact Row.made _ _ _)
  replace X := Lib.hid (X.out.step b); replace Y := Lib.hid (Y.out.step b); replace H := Lib.hid (H.out.step b); replace M := Lib.hid (M.out.step b); replace T := Lib.hid (T.out.step b); replace BK := Lib.hid (BK.out.deep b); replace BW := Lib.hid (below_step BW.out b)
  obtain ⟨gc, hgc⟩ : ∃ g, g = w2.heap.size := ⟨_, rfl⟩
  rw [← hgc] at CR ⊢
  clear hW2 b x0 x1 x2 hgc
  obtain ⟨y0, y1, y2, y3⟩ := box4 Y.out
  obtain ⟨th, sy, tm, kn⟩ := q
  go_upto_region 5 with (go_at_call 11; (with_reducible refine (HASK.out _).mono ?_); rintro e w3 ⟨rfl, b⟩; replace X := Lib.hid (X.out.step b); replace Y := Lib.hid (Y.out.step b); replace H := Lib.hid (H.out.step b); replace M := Lib.hid (M.out.step b); replace T := Lib.hid (T.out.step b); replace BK := Lib.hid (BK.out.deep b); replace CR := Lib.hid (CR.out.step b); replace BW := Lib.hid (below_step BW.out b); clear b)
  obtain ⟨W3, hW3⟩ : ∃ W, W = w3.alloc (.cells #[.int .i64 th, .int .i64 sy, .int .i64 tm, .int .i64 kn] 37) := ⟨_, rfl⟩
  unfold qnC
  dsimp only
  rw [← hW3]
  have b : Below w3.heap.size w3 W3 := by rw [hW3]; exact below_alloc _ _
  have QR : Hid (Row W3 w3.heap.size 37 #[.int .i64 th, .int .i64 sy, .int .i64 tm, .int .i64 kn]) := Lib.hid (by rw [hW3]; exact Row.made _ _ _)
  replace X := Lib.hid (X.out.step b); replace Y := Lib.hid (Y.out.step b); replace H := Lib.hid (H.out.step b); replace M := Lib.hid (M.out.step b); replace T := Lib.hid (T.out.step b); replace BK := Lib.hid (BK.out.deep b); replace CR := Lib.hid (CR.out.step b); replace BW := Lib.hid (below_step BW.out b)
  obtain ⟨gq, hgq⟩ : ∃ g, g = w3.heap.size := ⟨_, rfl⟩
  rw [← hgq] at QR ⊢
  clear hW3 b y0 y1 y2 y3 hgq
  obtain ⟨k0, k1, k2, _, _, _⟩ := CR.out.three
  obtain ⟨q0, q1, q2, q3⟩ := box4 QR.out
  have hdec := fun (W : World) (h : BkV W W.heap.size (.slice A1 NC c1) (.slice A2 NR c2) (.slice A3 NF c3) b) => decide_prf b ⟨th, sy, tm, kn⟩ VB.out AQ.out _ _ _ W h
  unfold qnC at hdec
  dsimp only at hdec
  generalize hso : soB b ⟨th, sy, tm, kn⟩ sy = so at hdec
  have HDEC := Lib.hid hdec; have HSO := Lib.hid hso
  clear hdec hso
  go_upto_region 6 with (go_at_call 12; (with_reducible refine (HDEC.out _ BK.out).mono ?_); rintro e w4 ⟨g, n, c, l, rfl, pf, ⟨n0, n20⟩, b⟩; replace X := Lib.hid (X.out.step b); replace Y := Lib.hid (Y.out.step b); replace H := Lib.hid (H.out.step b); replace M := Lib.hid (M.out.step b); replace T := Lib.hid (T.out.step b); replace BK := Lib.hid (BK.out.deep b); replace CR := Lib.hid (CR.out.step b); replace QR := Lib.hid (QR.out.step b); replace BW := Lib.hid (below_step BW.out b); have PF := Lib.hid pf; clear b pf)
  clear k0 k1 k2 q0 q1 q2 q3
  have hnc := PF.out.cap
  obtain ⟨k0, k1, k2, _, _, _⟩ := CR.out.three
  obtain ⟨q0, q1, q2, q3⟩ := box4 QR.out
  have hchk := fun (W : World) (h : BkV W W.heap.size (.slice A1 NC c1) (.slice A2 NR c2) (.slice A3 NF c3) b) (hl : FdsC W (some ⟨g, 0, none⟩) l) => check_at b ⟨th, sy, tm, kn⟩ so true l (some ⟨g, 0, none⟩) n c VB.out (by have := yes_check VB.out AQ.out PF.out.slim.1; dsimp only at this; rwa [HSO.out] at this) PF.out.len hnc (by omega) _ _ _ W h hl
  have hoth := fun (A : Option Addr) (m c : Nat) (z : List Fd) (W : World) (hm : z.length = m) (hc : m ≤ c) (h9 : m ≤ 1000) (h : BkV W W.heap.size (.slice A1 NC c1) (.slice A2 NR c2) (.slice A3 NF c3) b) (hl : FdsC W A z) => check_at b ⟨th, sy, tm, kn⟩ (!so) false z A m c VB.out (by have := other_check VB.out AQ.out z; dsimp only at this; rwa [HSO.out] at this) hm hc h9 _ _ _ W h hl
  have hben := fun (z : List Fd) (A : Option Addr) (c : Nat) (how n at_ : Int) (ih : In64 how) (ia : In64 at_) (h9 : z.length ≤ 100) (W : World) (hl : FdsC W A z) => bent_any z A c how n at_ ih ia h9 W hl
  unfold qnC at hchk hoth
  dsimp only at hchk hoth
  have HCHK := Lib.hid hchk; have HOTH := Lib.hid hoth; have HBEN := Lib.hid hben
  clear hchk hoth hben
  go_upto_region 8 with (go_at_call 13; (with_reducible refine (HCHK.out _ BK.out PF.out.fds).mono ?_); rintro e w5 ⟨rfl, b⟩; replace X := Lib.hid (X.out.step b); replace Y := Lib.hid (Y.out.step b); replace H := Lib.hid (H.out.step b); replace M := Lib.hid (M.out.step b); replace T := Lib.hid (T.out.step b); replace BK := Lib.hid (BK.out.deep b); replace CR := Lib.hid (CR.out.step b); replace QR := Lib.hid (QR.out.step b); replace PF := Lib.hid (PF.out.step b); replace BW := Lib.hid (below_step BW.out b); clear b)
  clear k0 k1 k2 q0 q1 q2 q3
  obtain ⟨hh0, hh1, _, _⟩ := H.out.two
  obtain ⟨mm0, mm1, _, _⟩ := M.out.two
  obtain ⟨tt0, tt1, _, _⟩ := T.out.two
  have hb1 := HBEN.out l (some ⟨g, 0, none⟩) c h0 n0_ t0 IH0.out IT0.out (by have := PF.out.len; omega) w5 PF.out.fds
  rw [PF.out.len] at hb1
  have HB1 := Lib.hid hb1
  clear hb1
  go_upto_region 9 with (go_at_call 14; (with_reducible refine HB1.out.mono ?_); rintro e w6 ⟨VA1, m1, vc1, L1, rfl, ⟨e1, le1, lc1⟩, f1, b⟩; replace X := Lib.hid (X.out.step b); replace Y := Lib.hid (Y.out.step b); replace H := Lib.hid (H.out.step b); replace M := Lib.hid (M.out.step b); replace T := Lib.hid (T.out.step b); replace BK := Lib.hid (BK.out.deep b); replace CR := Lib.hid (CR.out.step b); replace QR := Lib.hid (QR.out.step b); replace PF := Lib.hid (PF.out.step b); replace BW := Lib.hid (below_step BW.out b); have F1 := Lib.hid f1; have E1 := Lib.hid e1; clear b f1 e1)
  clear HB1 hh0 hh1 mm0 mm1 tt0 tt1
  obtain ⟨hh0, hh1, _, _⟩ := H.out.two
  obtain ⟨mm0, mm1, _, _⟩ := M.out.two
  obtain ⟨tt0, tt1, _, _⟩ := T.out.two
  have hb1 := HBEN.out L1 VA1 vc1 h1 n1_ t1 IH1.out IT1.out (by rw [E1.out]; omega) w6 F1.out
  rw [E1.out] at hb1
  have HB1 := Lib.hid hb1
  clear hb1
  go_upto_region 10 with (go_at_call 14; (with_reducible refine HB1.out.mono ?_); rintro e w7 ⟨VA2, m2, vc2, L2, rfl, ⟨e2, le2, lc2⟩, f2, b⟩; replace X := Lib.hid (X.out.step b); replace Y := Lib.hid (Y.out.step b); replace H := Lib.hid (H.out.step b); replace M := Lib.hid (M.out.step b); replace T := Lib.hid (T.out.step b); replace BK := Lib.hid (BK.out.deep b); replace CR := Lib.hid (CR.out.step b); replace QR := Lib.hid (QR.out.step b); replace PF := Lib.hid (PF.out.step b); replace F1 := Lib.hid (F1.out.deep b); replace BW := Lib.hid (below_step BW.out b); have F2 := Lib.hid f2; have E2 := Lib.hid e2; clear b f2 e2)
  clear HB1 hh0 hh1 mm0 mm1 tt0 tt1
  obtain ⟨m3, hm3⟩ : ∃ m, m = min LL 8 := ⟨_, rfl⟩
  have hmin : min (LL : Int) 8 = (m3 : Int) := by rw [hm3]; omega
  have e3 : (L0.take 8).length = m3 := by rw [List.length_take, ELL.out, hm3]; omega
  have lc3 : m3 ≤ lc := by omega
  have le3 : m3 ≤ 8 := by omega
  have lci : (m3 : Int) ≤ (lc : Int) := by omega
  have f3 : Hid (FdsC w7 LA (L0.take 8)) := Lib.hid ((WL.out.deep BW.out).take 8)
  have E3 := Lib.hid e3
  clear e3 hm3
  go_upto_region 11 with (fail)
  obtain ⟨W8, hW8⟩ : ∃ W, W = w7.alloc (.cells #[.slice (some ⟨g, 0, none⟩) n c, .slice VA1 m1 vc1, .slice VA2 m2 vc2, .slice LA m3 lc] 28) := ⟨_, rfl⟩
  rw [← hW8]
  have b : Below w7.heap.size w7 W8 := by rw [hW8]; exact below_alloc _ _
  have ZR : Hid (Row W8 w7.heap.size 28 #[.slice (some ⟨g, 0, none⟩) n c, .slice VA1 m1 vc1, .slice VA2 m2 vc2, .slice LA m3 lc]) := Lib.hid (by rw [hW8]; exact Row.made _ _ _)
  replace X := Lib.hid (X.out.step b); replace Y := Lib.hid (Y.out.step b); replace H := Lib.hid (H.out.step b); replace M := Lib.hid (M.out.step b); replace T := Lib.hid (T.out.step b); replace BK := Lib.hid (BK.out.deep b); replace CR := Lib.hid (CR.out.step b); replace QR := Lib.hid (QR.out.step b); replace PF := Lib.hid (PF.out.step b); replace F1 := Lib.hid (F1.out.deep b); replace F2 := Lib.hid (F2.out.deep b); replace f3 := Lib.hid (f3.out.deep b); replace BW := Lib.hid (below_step BW.out b)
  obtain ⟨gz, hgz⟩ : ∃ g, g = w7.heap.size := ⟨_, rfl⟩
  rw [← hgz] at ZR ⊢
  clear hW8 b hgz
  have pick4 : ∀ k, k < 4 → ∃ (A : Option Addr) (m cc : Nat) (z : List Fd), (#[.slice (some ⟨g, 0, none⟩) n c, .slice VA1 m1 vc1, .slice VA2 m2 vc2, .slice LA m3 lc] : Array Value)[k]? = some (.slice A m cc) ∧ z.length = m ∧ m ≤ cc ∧ m ≤ 1000 ∧ FdsC W8 A z := fun k hk => by
    match k, hk with
    | 0, _ => exact ⟨_, _, _, l, rfl, PF.out.len, hnc, by omega, PF.out.fds⟩
    | 1, _ => exact ⟨_, _, _, L1, rfl, E1.out, lc1, by omega, F1.out⟩
    | 2, _ => exact ⟨_, _, _, L2, rfl, E2.out, lc2, by omega, F2.out⟩
    | 3, _ => exact ⟨_, _, _, L0.take 8, rfl, E3.out, lc3, by omega, f3.out⟩
  have P4 := Lib.hid pick4
  clear pick4
  go_loopg [71, 21] 4 (fun kx s71 s21 wr => ∃ k : Nat, s71 = .int .i64 (k : Int) ∧ k + kx = 4 ∧ Below W8.heap.size W8 wr)
  case atStart => exact ⟨0, rfl, by omega, Below.refl _ _⟩
  case round =>
    obtain ⟨k, rfl, hk, hb⟩ := hrel
    by_cases hlt : k < 4
    · obtain ⟨A, m, cc, z, hcell, hzl, hzc, hz9, hzf⟩ := P4.out k hlt
      have zc := (ZR.out.step hb).at hcell
      have ck := HOTH.out A m cc z wr hzl hzc hz9 (BK.out.deep hb) (hzf.deep hb)
      have K7 := Lib.hid (CR.out.step hb); have Q7 := Lib.hid (QR.out.step hb); have CK := Lib.hid ck; have HB := Lib.hid hb
      obtain ⟨k0, k1, k2, _, _, _⟩ := K7.out.three
      obtain ⟨q0, q1, q2, q3⟩ := box4 Q7.out
      have k4 : (k : Int) < 4 := by omega
      clear ck hcell hzf hzl hzc hz9 hb
      go_wp2_with (go_at_call 13; (with_reducible refine CK.out.mono ?_); rintro e w9 ⟨rfl, b9⟩)
      go_roundg (4 - (k + 1))
      case measure => omega
      case rel => exact ⟨k + 1, by go_num, by omega, below_step HB.out b9⟩
    · obtain rfl : k = 4 := by omega
      have HB := Lib.hid hb
      clear hb
      go_wp2
      go_ret
      exact ⟨rfl, below_step BW.out HB.out⟩
end Go.Proofs.Ytddeegfdbnmemaa
