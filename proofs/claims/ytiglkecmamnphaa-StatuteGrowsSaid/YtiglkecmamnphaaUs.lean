/- Uses. -/
import Derived.Test.YtiglkecmamnphaaUs1
namespace Go.Proofs.Ytiglkecmamnphaa
open Go.RowKit Go.Sort Go.Lib

theorem add_sing (base : Nat) (v : Value) (l : List Int) (g0 : Nat) (x : Int) (w : World) (hbase : base ≤ w.heap.size) (hown : w.ownsRow base 3 1 v l.length (iC l)) (hx : w.cell? ⟨g0, 0, none⟩ = some (.int .i64 x)) (hg0 : g0 < w.heap.size) (hu : Up l) (hlen : l.length ≤ 900) :
    Calls Try.prog 34 #[v, .slice (some ⟨g0, 0, none⟩) 1 1] w fun e w' => ∃ v', e = .returned v' ∧ w'.ownsRow base 3 1 v' (addS l [x]).length (iC (addS l [x])) ∧ w.grownBy w' v.ownBlock ∧ (∀ g, v'.ownBlock = some g → v.ownBlock = some g ∨ w.heap.size ≤ g) :=
  add_all base v l (some ⟨g0, 0, none⟩) 1 [x] w hbase hown (.inr ⟨g0, 0, rfl, hg0, fun i r hr => by
    cases i with
    | zero => cases hr; exact hx
    | succ i => cases hr⟩) hu (by simp; omega)

set_option maxRecDepth 100000 in
set_option maxHeartbeats 8000000 in
theorem uses_yes (b : Bk) (q : Qn) (l : List Fd) (LA : Option Addr) (lc : Nat) (h9 : l.length ≤ Big) (hcap : l.length ≤ lc) (cv rv fv : Value) (w : World) (hw : BkV w w.heap.size cv rv fv b) (hI : BkI b) (hl : FdsC w LA l) (hv : validB b = true) (hq : asksB q = true) (hp : provesB b q l q.says = true) :
    Calls Try.prog 18 #[.agg #[cv, rv, fv], .agg (qnC q), .slice LA l.length lc] w fun e w' => ∃ av bv, e = .returned (twoR av bv 0) ∧ IntsV w' w'.heap.size av (usesL b q l).1 ∧ IntsV w' w'.heap.size bv (usesL b q l).2 ∧ Below w.heap.size w w' := by
  obtain ⟨W1, hW1⟩ : ∃ W1, W1 = (w.alloc (.cells #[cv, rv, fv] 34)).alloc (.cells (qnC q) 37) := ⟨_, rfl⟩
  have hb1 : Below w.heap.size w W1 := by rw [hW1]; exact keep_alloc (below_alloc _ _) _
  have r1 : Row W1 w.heap.size 34 #[cv, rv, fv] := by rw [hW1]; exact (Row.made w _ _).later _
  have r2 : Row W1 (w.heap.size + 1) 37 (qnC q) := by rw [hW1]; exact Row.made_at _ _ _ (by simp)
  have hlk := look_yes b q cv rv fv W1 (hw.deep hb1) hI hv hq
  obtain ⟨l1, l2, _⟩ := lens_of hv
  have hsy := says_of hq
  have hlow := low_of hv
  have hl20 := proves_len hlow hsy.2 hp
  have hpr := fun (av bv : Value) (W : World) (hb : Below w.heap.size w W) (ha : IntsV W W.heap.size av (aF b q)) (hc : IntsV W W.heap.size bv (aC b q)) => proves_any b q q.says l LA lc h9 hcap cv rv fv av bv W ⟨hw.deep hb, ha, hc⟩ l1 l2 (hl.deep hb)
  rw [hp] at hpr
  have hgi := fun (n : Int) (av bv : Value) (W : World) (hb : Below w.heap.size w W) (ha : IntsV W W.heap.size av (aF b q)) (hc : IntsV W W.heap.size bv (aC b q)) => giving_any b q n cv rv fv av bv W ⟨hw.deep hb, ha, hc⟩ l1
  have hgl := fun (n : Int) => Nat.le_trans (len_sC b q n) l1
  have huo := uses_ok b q l1 l
  have hus := fun (k : Nat) (f : Fd) (h : l[k]? = some f) => uses_succ b q h
  have huf : usesL b q l = usesL b q (l.take l.length) := by rw [List.take_length]
  obtain ⟨K, hK⟩ : ∃ K, K = l.length := ⟨_, rfl⟩
  rw [← hK] at h9 hcap hpr hl20 huf ⊢
  replace h9 : K ≤ 9223372036854775807 := h9
  have HP := Lib.hid hpr; have HL := Lib.hid hlk; have HB := Lib.hid hb1; have HLL := Lib.hid hl; have HG := Lib.hid hgi; have HGL := Lib.hid hgl; have HUO := Lib.hid huo; have HUS := Lib.hid hus; have HUF := Lib.hid huf; have HK := Lib.hid hK
  obtain ⟨k0, k1, k2, _, _, _⟩ := r1.three
  obtain ⟨CA, cl, cc, rfl⟩ : ∃ A n c, cv = .slice A n c := by obtain ⟨A, c, h, _⟩ := hw.1; exact ⟨_, _, _, h⟩
  obtain ⟨RA, rl, rc, rfl⟩ : ∃ A n c, rv = .slice A n c := by obtain ⟨A, c, h, _⟩ := hw.2.1; exact ⟨_, _, _, h⟩
  obtain ⟨FA, fl, fc, rfl⟩ : ∃ A n c, fv = .slice A n c := by obtain ⟨A, c, h, _⟩ := hw.2.2; exact ⟨_, _, _, h⟩
  have R2 := Lib.hid r2
  unfold qnC at r2 hW1 HL
  obtain ⟨m0, m1, m2, m3⟩ := box4 r2
  clear hlk hb1 hpr hw hl r1 r2 hK hv hq hsy l1 l2 hI hgi hgl huo hus huf hlow hp
  obtain ⟨th, sy, tm, kn⟩ := q
  dsimp only at *
  go_enter Try.func18, Try.ntmps18
  go_upto_region 1 with (fail)
  rw [← hW1]
  clear hW1
  go_upto_region 2 with (first | (go_at_call 30; (with_reducible refine HL.out.mono ?_); rintro e w2 ⟨av, bv, rfl, ha, hc, b2⟩; obtain ⟨aA, ac, rfl, _⟩ := id ha; obtain ⟨bA, bc, rfl, _⟩ := id hc; have A2 := Lib.hid ha; have C2 := Lib.hid hc; have B2 := Lib.hid b2; clear ha hc b2) | fail)
  generalize (aF b ⟨th, sy, tm, kn⟩).length = la at *
  generalize (aC b ⟨th, sy, tm, kn⟩).length = lb at *
  obtain ⟨W3, hW3⟩ : ∃ W3, W3 = w2.alloc (.cells #[.slice CA cl cc, .slice RA rl rc, .slice FA fl fc, .slice aA la ac, .slice bA lb bc] 79) := ⟨_, rfl⟩
  have b3 : Below w2.heap.size w2 W3 := by rw [hW3]; exact below_alloc _ _
  have r3 : Row W3 w2.heap.size 79 #[.slice CA cl cc, .slice RA rl rc, .slice FA fl fc, .slice aA la ac, .slice bA lb bc] := by rw [hW3]; exact Row.made w2 _ _
  obtain ⟨n0, n1, n2, n3, n4⟩ := box5 r3
  have r2 := (R2.out.step B2.out).step b3
  unfold qnC at r2
  obtain ⟨_, p1, _, _⟩ := box4 r2
  have BW := Lib.hid (below_step (below_step HB.out B2.out) b3)
  have A3 := Lib.hid (A2.out.deep b3); have C3 := Lib.hid (C2.out.deep b3); have R3 := Lib.hid r3
  have PW := Lib.hid (HP.out _ _ W3 BW.out A3.out C3.out)
  have LW := Lib.hid (HLL.out.deep BW.out)
  rw [← hW3]
  clear hW3 b3 r2 r3 HP HL A2 C2 B2 HB R2 HLL k0 k1 k2 m0 m1 m2 m3
  go_upto_region 5 with (first | (go_at_call 33; (with_reducible refine PW.out.mono ?_); rintro e w4 ⟨rfl, b4⟩; have A4 := Lib.hid (A3.out.deep b4); have C4 := Lib.hid (C3.out.deep b4); have R4 := Lib.hid (R3.out.step b4); have L4 := Lib.hid (LW.out.deep b4); have BB := Lib.hid (below_step BW.out b4); clear b4) | fail)
  clear n0 n1 n2 n3 n4 p1 A3 C3 R3 PW LW BW
  go_wp2
  go_loopg [11, 12, 14, 33] K (fun kx s11 s12 s14 s33 wr => ∃ k : Nat, s33 = .int .i64 (k : Int) ∧ k + kx = K ∧ Below w4.heap.size w4 wr ∧ Two w4.heap.size s11 s12 (usesL b ⟨th, sy, tm, kn⟩ (l.take k)).1 (usesL b ⟨th, sy, tm, kn⟩ (l.take k)).2 wr)
  case atStart => exact ⟨0, rfl, by omega, Below.refl _ _, World.ownsRow_nil _ _ _ _, World.ownsRow_nil _ _ _ _, fun g h => by cases h⟩
  case round =>
    obtain ⟨k, rfl, hk, hb, ho⟩ := hrel
    by_cases hlt : k < K
    · obtain ⟨f, hf⟩ : ∃ y, l[k]? = some y := at_lt (by rw [← HK.out]; exact hlt)
      obtain ⟨bb, o, hA, hbb, e0, e1, e2, e3⟩ := (L4.out.deep hb) k f hf
      subst hA
      have hs := HUS.out k f hf
      obtain ⟨up1, up2, le1, le2⟩ := HUO.out k
      obtain ⟨fs, fh, ff, fcl⟩ := f
      dsimp only at e0 e1 e2 e3
      have hgv := HGL.out fs
      rw [show uStep b ⟨th, sy, tm, kn⟩ (usesL b ⟨th, sy, tm, kn⟩ (l.take k)) (fs, fh, ff, fcl) = if fh = false then ((usesL b ⟨th, sy, tm, kn⟩ (l.take k)).1, addS (usesL b ⟨th, sy, tm, kn⟩ (l.take k)).2 (sC b ⟨th, sy, tm, kn⟩ fs)) else if fcl = -1 then (addS (usesL b ⟨th, sy, tm, kn⟩ (l.take k)).1 [ff], (usesL b ⟨th, sy, tm, kn⟩ (l.take k)).2) else ((usesL b ⟨th, sy, tm, kn⟩ (l.take k)).1, addS (usesL b ⟨th, sy, tm, kn⟩ (l.take k)).2 [fcl]) from rfl] at hs
      generalize (usesL b ⟨th, sy, tm, kn⟩ (l.take k)).1 = F at *
      generalize (usesL b ⟨th, sy, tm, kn⟩ (l.take k)).2 = C at *
      have HS := Lib.hid hs; have HO := Lib.hid ho; have HB := Lib.hid hb; have U1 := Lib.hid up1; have U2 := Lib.hid up2; have L1 := Lib.hid le1; have L2 := Lib.hid le2; have HGV := Lib.hid hgv; have H20 := Lib.hid hl20
      clear hs ho hb up1 up2 le1 le2 hf hbb HUS HUO HGL hgv
      go_upto_region 9 with (fail)
      obtain ⟨W6, hW6⟩ : ∃ W6, W6 = wr.alloc (.cells #[.int .i64 fs, .bool fh, .int .i64 ff, .int .i64 fcl] 63) := ⟨_, rfl⟩
      have b6 : Below wr.heap.size wr W6 := by rw [hW6]; exact below_alloc _ _
      obtain ⟨n0, n1, n2, n3⟩ := box4 (by rw [hW6]; exact Row.made wr _ _ : Row W6 wr.heap.size 63 _)
      have B6 := Lib.hid (below_step HB.out b6)
      have O6 := Lib.hid (HO.out.step b6)
      have r9 := R4.out.step B6.out
      obtain ⟨v0, v1, v2, v3, v4⟩ := box5 r9
      rw [← hW6]
      clear hW6 b6 e0 e1 e2 e3 HO HB r9
      cases fh
      · have hgi := HG.out fs _ _ W6 (below_step BB.out B6.out) (A4.out.deep B6.out) (C4.out.deep B6.out)
        have GI := Lib.hid hgi
        clear hgi
        go_wp2_with (first
          | (go_at_call 35; (with_reducible refine GI.out.mono ?_); rintro e w7 ⟨v7, rfl, o7, b7⟩; obtain ⟨XA, xc, rfl, _, nx⟩ := own_V o7 (Nat.le_trans HGV.out (by show _ ≤ 9223372036854775807; omega)); have NX := Lib.hid nx; have O7 := Lib.hid (O6.out.step b7); have B7 := Lib.hid (below_step B6.out b7); clear o7 b7 nx)
          | (go_at_call 34; (with_reducible refine (add_all w4.heap.size _ C _ _ (sC b ⟨th, sy, tm, kn⟩ fs) _ B7.out.size O7.out.b NX.out U2.out (by have := L2.out; have := HGV.out; have := H20.out; omega)).mono ?_); rintro e w8 ⟨v8, rfl, o8, hg8, hn8⟩; have O8 := Lib.hid (O7.out.snd o8 hg8 hn8); have B8 := Lib.hid (keep_grown B7.out hg8 O7.out.b); clear o8 hg8 hn8)
          | fail)
        go_roundg (K - (k + 1))
        case measure => omega
        case rel => exact ⟨k + 1, by go_num, by omega, B8.out, by rw [HS.out]; simpa using O8.out⟩
      · by_cases hfc : fcl = -1
        · subst hfc
          clear v0 v1 v2 v3 v4
          go_wp2_with (first
            | (go_at_call 34; (with_reducible refine (add_sing w4.heap.size _ F W6.heap.size ff _ (by simp; exact Nat.le_succ_of_le B6.out.size) (O6.out.a.alloc _) (by simp) (by simp) U1.out (by have := L1.out; have := H20.out; omega)).mono ?_); rintro e w8 ⟨v8, rfl, o8, hg8, hn8⟩; have O8 := Lib.hid ((O6.out.step (below_alloc _ _)).fst o8 hg8 hn8); have B8 := Lib.hid (keep_grown (keep_alloc B6.out _) hg8 (O6.out.a.alloc _)); clear o8 hg8 hn8)
            | fail)
          go_roundg (K - (k + 1))
          case measure => omega
          case rel => exact ⟨k + 1, by go_num, by omega, B8.out, by rw [HS.out]; simpa using O8.out⟩
        · have hfd : (fcl == -1) = false := by simp [hfc]
          clear v0 v1 v2 v3 v4
          go_wp2_with (first
            | (go_at_call 34; (with_reducible refine (add_sing w4.heap.size _ C W6.heap.size fcl _ (by simp; exact Nat.le_succ_of_le B6.out.size) (O6.out.b.alloc _) (by simp) (by simp) U2.out (by have := L2.out; have := H20.out; omega)).mono ?_); rintro e w8 ⟨v8, rfl, o8, hg8, hn8⟩; have O8 := Lib.hid ((O6.out.step (below_alloc _ _)).snd o8 hg8 hn8); have B8 := Lib.hid (keep_grown (keep_alloc B6.out _) hg8 (O6.out.b.alloc _)); clear o8 hg8 hn8)
            | fail)
          go_roundg (K - (k + 1))
          case measure => omega
          case rel => exact ⟨k + 1, by go_num, by omega, B8.out, by rw [HS.out]; simpa [hfc] using O8.out⟩
    · have hkK : k = K := by omega
      subst hkK
      obtain ⟨_, _, le1, le2⟩ := HUO.out k
      rw [← HUF.out] at ho le1 le2
      have HO := Lib.hid ho; have B5 := Lib.hid hb; have L1 := Lib.hid le1; have L2 := Lib.hid le2
      have I1 := Lib.hid (own_V ho.a (Nat.le_trans le1 (by show _ ≤ 9223372036854775807; omega)))
      have I2 := Lib.hid (own_V ho.b (Nat.le_trans le2 (by show _ ≤ 9223372036854775807; omega)))
      clear ho hb le1 le2
      go_wp2
      go_ret3
      exact ⟨_, _, rfl, I1.out, I2.out, below_step BB.out B5.out⟩
end Go.Proofs.Ytiglkecmamnphaa
