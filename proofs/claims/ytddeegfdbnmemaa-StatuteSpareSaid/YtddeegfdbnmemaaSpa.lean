/- StatuteSpare: its walk. -/
import Derived.Test.YtddeegfdbnmemaaPx
import Derived.Test.YtddeegfdbnmemaaSi
namespace Go.Proofs.Ytddeegfdbnmemaa
open Go.RowKit Go.Sort Go.Lib

set_option maxRecDepth 100000 in
set_option maxHeartbeats 16000000 in
theorem spare_walk (hsane : ∀ W : World, Calls Try.prog 9 #[] W fun e w' => e = .returned (.bool true) ∧ Below W.heap.size W w') (C : List Six) (CA : Option Addr) (Cc : Nat) (R : List Tri) (RA : Option Addr) (Rc : Nat) (F : List Six) (FA : Option Addr) (Fc : Nat) (a0 a1 a2 a3 : Int) (hC : ∀ y ∈ C, In6 y) (hR : ∀ y ∈ R, In3 y) (hF : ∀ y ∈ F, In6 y) (lC : C.length ≤ 9223372036854775807) (lR : R.length ≤ 9223372036854775807) (lF : F.length ≤ 9223372036854775807) (i0 : In64 a0) (i1 : In64 a1) (i2 : In64 a2) (i3 : In64 a3) (w : World) (wC : Cells w w.heap.size CA 6 (C.map fun y => (sixL y).toArray)) (wR : Cells w w.heap.size RA 3 (R.map fun y => (triL y).toArray)) (wF : Cells w w.heap.size FA 6 (F.map fun y => (sixL y).toArray)) :
    Calls Try.prog 6 #[.agg #[.slice CA C.length Cc, .slice RA R.length Rc, .slice FA F.length Fc], .agg #[.int .i64 a0, .int .i64 a1, .int .i64 a2, .int .i64 a3]] w fun e w' => e = .returned (.bool true) ∧ Below w.heap.size w w' := by
  have hmad := made_bk C CA Cc R RA Rc F FA Fc hC hR hF lC lR lF w wC wR wF
  have hask := fun W => ask_ref a0 a1 a2 a3 i0 i1 i2 i3 W
  have hvb := made_valid C R F
  have hln := made_len C R F
  have haq := ask_asks a0 a1 a2 a3
  generalize madeB C R F = b at *
  generalize askI a0 a1 a2 a3 = q at *
  generalize hNC : b.cls.length = NC at *
  generalize hNR : b.rpl.length = NR at *
  generalize hNF : b.fct.length = NF at *
  generalize C.length = LC at *
  generalize R.length = LR at *
  generalize F.length = LF at *
  have SAN := Lib.hid hsane; have HMAD := Lib.hid hmad; have HASK := Lib.hid hask; have VB := Lib.hid hvb; have AQ := Lib.hid haq; have ENC := Lib.hid hNC; have ENR := Lib.hid hNR; have ENF := Lib.hid hNF
  clear hsane hmad hask hvb haq hC hR hF lC lR lF wC wR wF i0 i1 i2 i3 hNC hNR hNF
  have BW : Hid (Below w.heap.size w ((w.alloc (.cells #[.slice CA LC Cc, .slice RA LR Rc, .slice FA LF Fc] 25)).alloc (.cells #[.int .i64 a0, .int .i64 a1, .int .i64 a2, .int .i64 a3] 26))) := Lib.hid (keep_alloc (below_alloc _ _) _)
  have X : Hid (Row ((w.alloc (.cells #[.slice CA LC Cc, .slice RA LR Rc, .slice FA LF Fc] 25)).alloc (.cells #[.int .i64 a0, .int .i64 a1, .int .i64 a2, .int .i64 a3] 26)) w.heap.size 25 #[.slice CA LC Cc, .slice RA LR Rc, .slice FA LF Fc]) := Lib.hid ((Row.made _ _ _).later _)
  have Y : Hid (Row ((w.alloc (.cells #[.slice CA LC Cc, .slice RA LR Rc, .slice FA LF Fc] 25)).alloc (.cells #[.int .i64 a0, .int .i64 a1, .int .i64 a2, .int .i64 a3] 26)) (w.heap.size + 1) 26 #[.int .i64 a0, .int .i64 a1, .int .i64 a2, .int .i64 a3]) := Lib.hid (Row.made_at _ _ _ (by simp))
  go_enter Try.func6, Try.ntmps6
  go_upto_region 3 with (go_at_call 9; (with_reducible refine (SAN.out _).mono ?_); rintro e w1 ⟨rfl, b⟩; replace X := Lib.hid (X.out.step b); replace Y := Lib.hid (Y.out.step b); replace BW := Lib.hid (below_step BW.out b); clear b)
  obtain ⟨x0, x1, x2, _, _, _⟩ := X.out.three
  go_upto_region 4 with (go_at_call 10; (with_reducible refine (HMAD.out _ BW.out).mono ?_); rintro e w2 ⟨A1, c1, A2, c2, A3, c3, rfl, bk, b⟩; replace X := Lib.hid (X.out.step b); replace Y := Lib.hid (Y.out.step b); replace BW := Lib.hid (below_step BW.out b); have BK := Lib.hid bk; clear b bk)
  obtain ⟨W2, hW2⟩ : ∃ W, W = w2.alloc (.cells #[.slice A1 NC c1, .slice A2 NR c2, .slice A3 NF c3] 34) := ⟨_, rfl⟩
  rw [← hW2]
  have b : Below w2.heap.size w2 W2 := by rw [hW2]; exact below_alloc _ _
  have CR : Hid (Row W2 w2.heap.size 34 #[.slice A1 NC c1, .slice A2 NR c2, .slice A3 NF c3]) := Lib.hid (by rw [hW2]; exact Row.made _ _ _)
  replace X := Lib.hid (X.out.step b); replace Y := Lib.hid (Y.out.step b); replace BK := Lib.hid (BK.out.deep b); replace BW := Lib.hid (below_step BW.out b)
  clear hW2 b x0 x1 x2
  obtain ⟨y0, y1, y2, y3⟩ := box4 Y.out
  obtain ⟨th, sy, tm, kn⟩ := q
  go_upto_region 5 with (go_at_call 11; (with_reducible refine (HASK.out _).mono ?_); rintro e w3 ⟨rfl, b⟩; replace X := Lib.hid (X.out.step b); replace Y := Lib.hid (Y.out.step b); replace BK := Lib.hid (BK.out.deep b); replace CR := Lib.hid (CR.out.step b); replace BW := Lib.hid (below_step BW.out b); clear b)
  obtain ⟨W3, hW3⟩ : ∃ W, W = w3.alloc (.cells #[.int .i64 th, .int .i64 sy, .int .i64 tm, .int .i64 kn] 37) := ⟨_, rfl⟩
  unfold qnC
  dsimp only
  rw [← hW3]
  have b : Below w3.heap.size w3 W3 := by rw [hW3]; exact below_alloc _ _
  have QR : Hid (Row W3 w3.heap.size 37 #[.int .i64 th, .int .i64 sy, .int .i64 tm, .int .i64 kn]) := Lib.hid (by rw [hW3]; exact Row.made _ _ _)
  replace X := Lib.hid (X.out.step b); replace Y := Lib.hid (Y.out.step b); replace BK := Lib.hid (BK.out.deep b); replace CR := Lib.hid (CR.out.step b); replace BW := Lib.hid (below_step BW.out b)
  clear hW3 b y0 y1 y2 y3
  obtain ⟨k0, k1, k2, _, _, _⟩ := CR.out.three
  obtain ⟨q0, q1, q2, q3⟩ := box4 QR.out
  have hdec := fun (W : World) (h : BkV W W.heap.size (.slice A1 NC c1) (.slice A2 NR c2) (.slice A3 NF c3) b) => decide_prf b ⟨th, sy, tm, kn⟩ VB.out AQ.out _ _ _ W h
  unfold qnC at hdec
  dsimp only at hdec
  generalize hso : soB b ⟨th, sy, tm, kn⟩ sy = so at hdec
  have HDEC := Lib.hid hdec; have HSO := Lib.hid hso
  clear hdec hso
  go_upto_region 6 with (go_at_call 12; (with_reducible refine (HDEC.out _ BK.out).mono ?_); rintro e w4 ⟨g, n, c, l, rfl, pf, ⟨n0, n20⟩, b⟩; replace X := Lib.hid (X.out.step b); replace Y := Lib.hid (Y.out.step b); replace BK := Lib.hid (BK.out.deep b); replace CR := Lib.hid (CR.out.step b); replace QR := Lib.hid (QR.out.step b); replace BW := Lib.hid (below_step BW.out b); have PF := Lib.hid pf; clear b pf)
  clear k0 k1 k2 q0 q1 q2 q3
  have hn0 : ((n : Int) == 0) = false := by simp; omega
  have hnc := PF.out.cap
  go_wp2
  go_loopg [10, 11] n (fun kx s10 s11 wr => ∃ k : Nat, s10 = .int .i64 (k : Int) ∧ k + kx = n ∧ Below w4.heap.size w4 wr)
  case atStart => exact ⟨0, rfl, by omega, Below.refl _ _⟩
  case round =>
    obtain ⟨k, rfl, hk, hb⟩ := hrel
    by_cases hlt : k < n
    · have HB := Lib.hid hb
      have hno : provesB b ⟨th, sy, tm, kn⟩ (l.take k ++ l.drop (k + 1)) sy = false := by
        have hkl : k < l.length := by rw [PF.out.len]; exact hlt
        exact PF.out.slim.2 (l.take k) l[k] (l.drop (k + 1)) (by rw [List.getElem_cons_drop, List.take_append_drop])
      have hlen := PF.out.len
      have hchk := fun (A : Option Addr) (m c : Nat) (W : World) (hm : (l.take k ++ l.drop (k + 1)).length = m) (hc : m ≤ c) (h9 : m ≤ 1000) (h : BkV W W.heap.size (.slice A1 NC c1) (.slice A2 NR c2) (.slice A3 NF c3) b) (hl : FdsC W A (l.take k ++ l.drop (k + 1))) => check_at b ⟨th, sy, tm, kn⟩ so false _ A m c VB.out (no_check hno) hm hc h9 _ _ _ W h hl
      unfold qnC at hchk
      dsimp only at hchk
      have HCHK := Lib.hid hchk; have HLEN := Lib.hid hlen
      clear hchk hno hb hlen
      have kn1 : (k : Int) < (n : Int) := by omega
      have kc : (k : Int) ≤ (c : Int) := by omega
      have kn2 : (k : Int) + 1 ≤ (n : Int) := by omega
      have kn0 : (0 : Int) ≤ (k : Int) + 1 := by omega
      have nci : (n : Int) ≤ (c : Int) := by omega
      have kw : IntKind.i64.wrap ((k : Int) + 1) = (k : Int) + 1 := IntWalk.i64_in _ (by omega)
      have e0 : (wr.drew.alloc (.cells #[] 63)).ownsRow wr.heap.size 63 4 (.slice (some ⟨wr.heap.size, 0, none⟩) 0 0) 0 (flG fdL []) := own_e wr.drew wr.heap.size (Nat.le_refl _)
      have bE : Below wr.heap.size wr (wr.drew.alloc (.cells #[] 63)) := keep_alloc (Below.refl _ _).drew _
      have n1 := fds_cells ((PF.out.fds.deep (below_step HB.out bE)).take k)
      have l1 : k = (l.take k).length := by rw [List.length_take, HLEN.out]; omega
      have l2 : n - (k + 1) = (l.drop (k + 1)).length := by rw [List.length_drop, HLEN.out]
      have z1 : ∀ y ∈ l.take k, ∀ u ∈ fdL y, u.oneCell' = true := fun y _ => fd_one y
      have z2 : ∀ y ∈ l.drop (k + 1), ∀ u ∈ fdL y, u.oneCell' = true := fun y _ => fd_one y
      have n2 : ∀ W, Below wr.heap.size wr W → Cells W W.heap.size (if c = k + 1 then some ⟨g, 0, none⟩ else some ⟨g, (k + 1) * 4, none⟩) 4 ((l.drop (k + 1)).map fun x => (fdL x).toArray) := fun W hW => by
        split
        · left
          rw [List.map_eq_nil_iff, List.drop_eq_nil_iff, HLEN.out]
          omega
        · have := fds_cells ((PF.out.fds.deep (below_step HB.out hW)).drop (k + 1))
          rwa [Nat.zero_add] at this
      have BE := Lib.hid bE; have E0 := Lib.hid e0; have N1 := Lib.hid n1; have N2 := Lib.hid n2; have L1 := Lib.hid l1; have L2 := Lib.hid l2; have Z1 := Lib.hid z1; have Z2 := Lib.hid z2
      clear bE e0 n1 n2 l1 l2 z1 z2
      go_upto_region 11 with (fail)
      go_region_held3 (fun W => Below wr.heap.size wr W)
        (first | assumption | exact (Below.refl _ _).drew | exact BE.out | exact b5 | exact b6 | fail)
        (first
          | (refine step_append_G (enc := fdL) fdL_len Try.underlying28 fd_info rfl (by decide) (by decide) rfl _ _ (by rfl) wr.heap.size _ 0 [] (by rfl) E0.out _ k c (l.take k) (by rfl) L1.out Z1.out N1.out (by omega) BE.out.size ?_; intro v1 w5 o5 g5; have b5 := keep_grown BE.out g5 E0.out; have O5 := Lib.hid o5; clear g5 o5)
          | (refine step_append_G (enc := fdL) fdL_len Try.underlying28 fd_info rfl (by decide) (by decide) rfl _ _ (by rfl) wr.heap.size _ (0 + k) ([] ++ l.take k) (by rfl) O5.out _ (n - (k + 1)) (c - (k + 1)) (l.drop (k + 1)) (by rfl) L2.out Z2.out (N2.out _ b5) (by omega) b5.size ?_; intro v2 w6 o6 g6; have b6 := keep_grown b5 g6 O5.out; have O6 := Lib.hid o6; clear g6 o6)
          | fail)
      generalize (if c = k + 1 then some (⟨g, 0, none⟩ : Addr) else some ⟨g, (k + 1) * 4, none⟩) = AIF
      obtain ⟨VA, vc, rfl⟩ := own_len O6.out
      generalize hM : 0 + k + (n - (k + 1)) = M at *
      have hck := fun (A : Option Addr) => HCHK.out A M vc w6 (by rw [List.length_append, List.length_take, List.length_drop, HLEN.out]; omega) (own_cap O6.out) (by omega)
      have BB := Lib.hid (below_step HB.out b6)
      have hbk := BK.out.deep BB.out
      have hfd : FdsC w6 VA (l.take k ++ l.drop (k + 1)) := by
        have o := O6.out
        rw [List.nil_append] at o
        exact own_fds (by rw [List.length_append, List.length_take, List.length_drop, HLEN.out]; omega) o
      have HCK := Lib.hid (hck VA hbk hfd)
      have K7 := Lib.hid (CR.out.step BB.out); have Q7 := Lib.hid (QR.out.step BB.out)
      obtain ⟨k0, k1, k2, _, _, _⟩ := K7.out.three
      obtain ⟨q0, q1, q2, q3⟩ := box4 Q7.out
      clear hck hbk hfd hM
      go_wp2_with (go_at_call 13; (with_reducible refine HCK.out.mono ?_); rintro e w7 ⟨rfl, b7⟩)
      go_roundg (n - (k + 1))
      case measure => omega
      case rel => exact ⟨k + 1, by go_num, by omega, below_step BB.out b7⟩
    · obtain rfl : k = n := by omega
      have HB := Lib.hid hb
      clear hb
      go_wp2
      go_ret
      exact ⟨rfl, below_step BW.out HB.out⟩
end Go.Proofs.Ytddeegfdbnmemaa
