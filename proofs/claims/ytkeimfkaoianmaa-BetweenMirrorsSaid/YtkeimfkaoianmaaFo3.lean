/- follow: its walk. -/
import Derived.Test.YtkeimfkaoianmaaFo2
namespace Go.Proofs.Ytkeimfkaoianmaa
open Go.RowKit Go.Shelf

theorem grown_set (W : World) (b o : Nat) (v : Value) : W.grownBy (W.setCell ⟨b, o, none⟩ v) (some b) := ⟨rfl, rfl, rfl, by simp, fun i _ hne => heap_setCell_other W ⟨b, o, none⟩ i v (fun e => hne (by rw [e]))⟩
section
attribute [local go_sem] Oper.semAt_some
set_option maxRecDepth 100000 in
set_option maxHeartbeats 4000000 in
theorem follow_in (m' n : Nat) (bs : List Bn) (A SA : Option Addr) (c sc : Nat) (ss : List Nat) (f t m : Int) (hm : 4 ≤ m') (hn : n ≤ 16) (ho : Okb n bs) (h60 : bs.length ≤ 60) (hK : ss.length ≤ 20) (ht : 0 ≤ t ∧ t < n) (w : World) (hr : Rds w w.heap.size A bs)
    (hl : Lots w w.heap.size SA n ss) (htb : ∀ j s, ss[j]? = some s → Tbl w s n (tb bs j)) (hf : Fst bs ss.length f t m) (hs : Sm ss.length m) :
    CallsIn Fence.wide m' Try.prog 55 #[btw n A bs.length c, bnd (f, t, m), .slice SA ss.length sc] w fun e w' => ∃ g cap : Nat, e = .returned (.slice (some ⟨g, 0, none⟩) ss.length cap) ∧
      w'.ownsRow w.heap.size 3 1 (.slice (some ⟨g, 0, none⟩) ss.length cap) ss.length (natV (folL bs ss.length f t m)) ∧ Below w.heap.size w w' := by
  obtain ⟨L, hLL⟩ : ∃ L, L = bs.length := ⟨_, rfl⟩
  obtain ⟨K, hKK⟩ : ∃ K, K = ss.length := ⟨_, rfl⟩
  obtain ⟨R, hR⟩ : ∃ R, R = folL bs K f t m := ⟨_, rfl⟩
  rw [← hLL, ← hKK]
  rw [← hLL] at h60
  rw [← hKK] at hK hf hs
  rw [← hR]
  obtain ⟨i0, hi, hz0, hz1, hz2⟩ := info_parts int_info
  have hmk := fun (W : World) => run_makeSlice (P := Try.prog) W 22 3 i0 (.int .i64 0) Try.underlying22 hi hz0 .i64 .i64 0 (K : Int) (by omega) (by omega) (by rw [hz1]; omega) (by rw [hz2]; omega) (by omega)
  simp only [Int.toNat_natCast, Int.toNat_zero, hz1, Nat.mul_one] at hmk
  unfold btw bnd
  have hm1 : 1 ≤ m' := by omega
  have HLL := Lib.hid hLL; have HKK := Lib.hid hKK; have HRR := Lib.hid hR; have HO := Lib.hid ho; have HR := Lib.hid hr; have HL := Lib.hid hl; have HTB := Lib.hid htb; have HF := Lib.hid hf; have HS := Lib.hid hs
  clear hLL hKK hR ho hr hl htb hf hs
  refine callsIn_of_wp_marks Try.func55 rfl trivial ?_ rfl
  simp only [Try.ntmps55, List.size_toArray, List.length_cons, List.length_nil, Nat.reduceAdd, Nat.reduceSub, Array.replicate_succ, Array.replicate_zero, List.push_toArray, List.append_toArray, List.nil_append, List.cons_append]
  gi_wp2_with (refine ⟨trivial, ?_⟩; gi_at_call 62; refine (callsIn_wide.2 (backward_any SA K sc _)).mono ?_; rintro e w1 ⟨rfl, rfl⟩)
  obtain ⟨w3, hw3⟩ : ∃ w3, w3 = ((((w.alloc (.cells #[.int .i64 (n : Int), .slice A L c] 28)).alloc (.cells #[.int .i64 f, .int .i64 t, .int .i64 m] 30)).alloc (.cells (madeCells #[.int .i64 0] K) 3)).alloc (.cells #[.slice (some ⟨w.heap.size + 1 + 1, 0, none⟩) 0 K] 22)).alloc (.cells #[.slice SA K sc] 80) := ⟨_, rfl⟩
  rw [← hw3]
  have st : Fo w bs n L c K A t R 0 w3 f m (.slice (some ⟨w.heap.size + 1 + 1, 0, none⟩) 0 K) [] := by
    subst hw3
    refine ⟨?_, by simp, ?_, ?_, ?_, ?_, by simp, HF.out, HS.out, by rw [HRR.out]; rfl⟩
    · exact keep_alloc (keep_alloc (keep_alloc (keep_alloc (below_alloc _ _) _) _) _) _
    · exact ((((Row.made _ _ _).later _).later _).later _).later _
    · exact (((Row.made_at _ _ _ (by simp)).later _).later _).later _
    · exact (Row.made_at _ _ _ (by simp)).later _
    · have := World.ownsRow_made (base := w.heap.size) (e := 3) (size := 1) ((w.alloc (.cells #[.int .i64 (n : Int), .slice A L c] 28)).alloc (.cells #[.int .i64 f, .int .i64 t, .int .i64 m] 30)) (madeCells #[.int .i64 0] K) K (by simp; omega) (by unfold maxLen; omega) (by rw [size_madeCells]; omega)
      simp only [World.size_alloc] at this
      exact (this.alloc _).alloc _
  have rBk : Row w3 (w.heap.size + 1 + 1 + 1 + 1) 80 #[.slice SA K sc] := by rw [hw3]; exact Row.made_at _ _ _ (by simp)
  have z3 : w3.heap.size = w.heap.size + 5 := by rw [hw3]; simp
  have hands := backward_hands (m' - 1) n ss SA sc (w.heap.size + 1 + 1 + 1 + 1) w.heap.size (by omega) hn (by rw [← HKK.out]; omega) w3 (by rw [← HKK.out]; exact rBk) (by omega) (HL.out.keep (fun i hi => st.below.block i hi))
  rw [← HKK.out] at hands
  have H3 := Lib.hid hw3; have ST := Lib.hid st
  have RBK := Lib.hid rBk
  clear hw3 st rBk hmk
  refine range_some rfl hm1 rfl trivial (enters_of Try.func68 (by kernel_rfl) rfl) (fun s => rfl) hands
    (fun k lo z s X Y h q => h) (fun k lo s X Y Z q h => h.before (n₀ := w3.heap.size) (by omega) (by omega) q) (fun k lo s X Y Z h q => h.behind (n₀ := w3.heap.size) (by omega) (by omega) q)
    (fun k lo z X => (∃ f' m1 v l, Fo w bs n L c K A t R k X f' m1 v l) ∧ Row X (w.heap.size + 1 + 1 + 1 + 1) 80 #[.slice SA K sc]) (fun _ => False)
    (fun k lo z X Y h q => by obtain ⟨⟨f', m1, v, l, h⟩, hb⟩ := h; exact ⟨⟨f', m1, v, l, h.quiet q (by omega)⟩, q.row hb⟩)
    (fun _ _ _ _ _ h _ => h) (fun _ _ h _ => h) (fun lo => ⟨⟨_, _, _, _, ST.out⟩, RBK.out⟩) ?round ?done (fun _ _ _ h => h.elim)
  case round =>
    clear ST H3 hands RBK
    rintro l0 k lo z ⟨j, s⟩ W T hl hlW hI hG hk hT
    obtain ⟨hj1, hj2⟩ := hG
    dsimp only at hj1 hj2
    rw [← HKK.out] at hj1
    gi_wp2
    obtain ⟨⟨f1, m1, v1, l1, h1⟩, hk1⟩ := hI
    have gal : W.grownBy (W.alloc (.cells #[.slice (some ⟨s, 0, none⟩) n n] 63)) none := World.grownBy_alloc _ _ _
    refine hT _ _ ⟨⟨f1, m1, v1, l1, h1.quiet (.of_none gal) (Nat.le_refl _)⟩, hk1.later _⟩ ⟨by rw [← HKK.out]; exact hj1, hj2⟩ gal ?_
    intro W₂ hI2 _ hg
    have r9 : Row W₂ W.heap.size 63 #[.slice (some ⟨s, 0, none⟩) n n] := (Row.made _ _ _).grown hg (fun e => by injection e with e; omega)
    clear h1 hk1 f1 m1 v1 l1 gal hT hg
    obtain ⟨⟨f', m1, v, l, h2⟩, hbk2⟩ := hI2
    have HBK := Lib.hid hbk2
    clear hbk2
    have hkj : K - k = j + 1 := by omega
    have hfs := h2.fst
    have hsm := h2.sm
    have heq := h2.eq
    rw [hkj] at hfs hsm heq
    obtain ⟨i, ⟨cf, ct, cm⟩, hix, hci, hcf, hcm, hnx, hsx⟩ := hfs.next HO.out (by omega) hsm
    dsimp only at hcf hcm hnx hsx
    have hiL : i < L := by
      rcases Nat.lt_or_ge i L with h | h
      · exact h
      · rw [List.getElem?_eq_none (by rw [← HLL.out]; exact h)] at hci; cases hci
    rw [folL_succ hix hci] at heq
    obtain ⟨bb, o, hA, _⟩ := HR.out.at hci
    subst hA
    obtain ⟨_, ⟨t0, t1⟩, cm0, cm1⟩ := HO.out.at hci
    dsimp only at t0 t1 cm0 cm1 heq
    have htb2 : Tbl W₂ s n (tb bs j) := (HTB.out j s hj2).step h2.below
    have hin := indexFunc_any n bs (some ⟨bb, o, none⟩) c j s (w.heap.size + 1) W.heap.size i f' t m1 hn HO.out (by rw [← HLL.out]; exact h60) (by omega) ht hix W₂ (HR.out.deep h2.below) ⟨h2.x, r9, htb2⟩
    rw [← HLL.out] at hin
    obtain ⟨b0, b1, _, _⟩ := h2.b.two
    have H2 := Lib.hid h2; have HIN := Lib.hid hin; have HEQ := Lib.hid heq; have HNX := Lib.hid hnx; have HSX := Lib.hid hsx; have HCI := Lib.hid hci; have HT9 := Lib.hid htb2; have HSM := Lib.hid hsm
    clear h2 hin heq hnx hsx hci htb2 hfs hsm hix r9 hcm hcf
    gi_upto_region 7 with (first
      | (refine ⟨trivial, fun _ => (by omega), ?_⟩; gi_at_call 63; refine (CallsIn.inRound l0 (callsIn_wide.2 HIN.out)).mono ?_; rintro e w4 ⟨rfl, hb4⟩; have H4 := Lib.hid (H2.out.step hb4); have HB4 := Lib.hid hb4; have l4 := H4.out.lb.at (i := 0) rfl; clear hb4)
      | (gi_at_builtin; refine wpListIn_append_own _ rfl _ _ 22 rfl w.heap.size 3 i0 (.int .i64 0) 1 8 Try.underlying22 hi hz0 hz1 hz2 rfl (by decide) _ _ _ rfl (H4.out.own.alloc _) ⟨w4.heap.size, 0, none⟩ 1 1 [.int .i64 (i : Int)] rfl rfl (cell_one_new _ _ _) (by simp [Value.oneCell']) (by unfold maxLen; omega) (by omega) (by have := H4.out.size; simp; omega) ?_; intro v' w5 own5 hg5 hn5; obtain ⟨g', cap', rfl⟩ := ownsRow_succ own5; obtain ⟨lb5, bY, sY, rbY, rxY, rlY, ownY, keepY, nonY, oldY⟩ := H4.out.put hg5 own5 _ rfl; obtain ⟨_, _, hA', _, e0, e1, e2⟩ := (HR.out.below bY).at HCI.out; cases hA'; dsimp only at e0 e1 e2; obtain ⟨y0, y1, _, _⟩ := rbY.two; obtain ⟨x0, x1, x2, xf0, xf1, xf2⟩ := rxY.three; have l5 := lb5.at (i := 0) rfl; have l5f := lb5.free 0; have RX := Lib.hid rxY; have RB := Lib.hid rbY; have RL := Lib.hid rlY; have OW := Lib.hid ownY; have KE := Lib.hid keepY; have NO := Lib.hid nonY; have OL := Lib.hid oldY; have BY := Lib.hid bY; clear rxY rbY rlY ownY keepY nonY oldY bY lb5 own5 hg5 hn5))
    obtain ⟨Y, hY⟩ : ∃ Y, Y = w5.setCell ⟨w.heap.size + 1 + 1 + 1, 0, none⟩ (.slice (some ⟨g', 0, none⟩) (k + 1) cap') := ⟨_, rfl⟩
    rw [← hY] at RX RB RL OW KE NO OL BY sY e0 e1 e2 ⊢
    obtain ⟨Z, hZ⟩ : ∃ Z, Z = Y.setCell ⟨w.heap.size + 1, 0, none⟩ (.int .i64 ct) := ⟨_, rfl⟩
    have zx : Row Z (w.heap.size + 1) 30 #[.int .i64 ct, .int .i64 t, .int .i64 m1] := by rw [hZ]; exact RX.out.stored 0 _
    have zb : Row Z w.heap.size 28 #[.int .i64 (n : Int), .slice (some ⟨bb, o, none⟩) L c] := by rw [hZ]; exact RB.out.aside (p := ⟨w.heap.size + 1, 0, none⟩) (by show w.heap.size + 1 ≠ w.heap.size; omega) _
    have bZ : Below w.heap.size w Z := by rw [hZ]; exact BY.out.setCell (p := ⟨w.heap.size + 1, 0, none⟩) (Nat.le_succ _) _
    obtain ⟨_, _, hA', _, q0, q1, q2⟩ := (HR.out.below bZ).at HCI.out
    cases hA'
    dsimp only at q0 q1 q2
    obtain ⟨u0, u1, u2, uf0, uf1, uf2⟩ := zx.three
    obtain ⟨p0, p1, _, _⟩ := zb.two
    have hsm := HSM.out
    unfold Sm at hsm
    have ew : IntKind.i64.wrap (m1 - cm) = m1 - cm := IntWalk.i64_in _ (by omega)
    rw [← hZ]
    have HZ := Lib.hid hZ; have ZX := Lib.hid zx; have ZB := Lib.hid zb; have BZ := Lib.hid bZ
    clear hZ hY zx zb bZ hsm y0 y1 x0 x1 x2 xf0 xf1 xf2 e0 e1 e2 l4 l5 l5f
    have fin : ((∃ f2 m2 v2 l2, Fo w bs n L c K (some ⟨bb, o, none⟩) t R (k + 1) (Z.setCell ⟨w.heap.size + 1, 2, none⟩ (.int .i64 (m1 - cm))).drew f2 m2 v2 l2) ∧ Row (Z.setCell ⟨w.heap.size + 1, 2, none⟩ (.int .i64 (m1 - cm))).drew (w.heap.size + 1 + 1 + 1 + 1) 80 #[.slice SA K sc]) ∧ KeepB (w.heap.size + 1 + 1 + 1 + 1) w.heap.size k lo (j, s) W₂ (Z.setCell ⟨w.heap.size + 1, 2, none⟩ (.int .i64 (m1 - cm))).drew ∧
        ∀ (l : Nat) (o : Obj), w3.heap.size ≤ l → W₂.heap[l]? = some o → o.isCells = false → (Z.setCell ⟨w.heap.size + 1, 2, none⟩ (.int .i64 (m1 - cm))).drew.heap[l]? = some o := by
      have hs2 := H2.out.size
      have hs4 := HB4.out.size
      have oth : ∀ q, q ≠ w.heap.size + 1 → (Z.setCell ⟨w.heap.size + 1, 2, none⟩ (.int .i64 (m1 - cm))).heap[q]? = Y.heap[q]? := fun q hq => by
        rw [heap_setCell_other Z ⟨w.heap.size + 1, 2, none⟩ q _ hq, HZ.out, heap_setCell_other Y ⟨w.heap.size + 1, 0, none⟩ q _ hq]
      have rot : ∀ q t' C, Row Y q t' C → q ≠ w.heap.size + 1 → Row (Z.setCell ⟨w.heap.size + 1, 2, none⟩ (.int .i64 (m1 - cm))) q t' C := fun q t' C hr hq => (oth q hq).trans hr
      have hbY := KE.out _ _ _ (HBK.out.step HB4.out) (by decide) (by omega)
      have hsz : (Z.setCell ⟨w.heap.size + 1, 2, none⟩ (.int .i64 (m1 - cm))).heap.size = Y.heap.size := by rw [HZ.out]; simp
      have hw1 : w.heap.size + 1 ≠ w.heap.size := by omega
      have own2 : (Z.setCell ⟨w.heap.size + 1, 2, none⟩ (.int .i64 (m1 - cm))).ownsRow w.heap.size 3 1 (.slice (some ⟨g', 0, none⟩) (k + 1) cap') (k + 1) (natV (l ++ [i])) := by
        have o1 := OW.out.kept (grown_set Y (w.heap.size + 1) 0 (.int .i64 ct)) (.inr (fun e => own_row OW.out RX.out (by decide) e.symm))
        rw [← HZ.out] at o1
        exact o1.kept (grown_set Z (w.heap.size + 1) 2 (.int .i64 (m1 - cm))) (.inr (fun e => own_row o1 ZX.out (by decide) e.symm))
      refine ⟨⟨⟨ct, m1 - cm, .slice (some ⟨g', 0, none⟩) (k + 1) cap', l ++ [i], ?_⟩, rot _ _ _ hbY (by omega)⟩, ⟨?_, fun q hq hq2 => ?_⟩, fun q o hq ho hc => ?_⟩
      · have hkj2 : K - (k + 1) = j := by omega
        refine ⟨(BZ.out.setCell (p := ⟨w.heap.size + 1, 2, none⟩) (Nat.le_succ _) _).drew, ?_, rot _ _ _ RB.out (by omega), ZX.out.stored 2 _, rot _ _ _ RL.out (by omega), own2, by simp, by rw [hkj2]; exact HNX.out, by rw [hkj2]; exact HSX.out, ?_⟩
        · show w.heap.size + 5 ≤ (Z.setCell _ _).heap.size; rw [hsz]; omega
        · rw [hkj2, List.append_assoc]; exact HEQ.out
      · show W₂.heap.size ≤ (Z.setCell _ _).heap.size; rw [hsz]; omega
      · rcases hq with hq | rfl
        · exact (oth q (by omega)).trans ((OL.out q hq).trans (HB4.out.block q (by omega)))
        · exact (rot _ _ _ hbY (by omega)).trans (show _ = _ from HBK.out).symm
      · have e4 : w4.heap[q]? = some o := (HB4.out.block q (Array.getElem?_eq_some_iff.1 ho).1).trans ho
        exact (oth q (by omega)).trans (NO.out q o e4 hc)
    have FIN := Lib.hid fin
    clear fin H2 HIN HEQ HNX HSX HCI HT9 HSM H4 HB4 RX RB RL OW KE NO OL BY HZ ZX ZB BZ HBK HLL HKK HRR HO HR HL HTB HF HS
    gi_region
    all_goals exact FIN.out
  case done =>
    intro D lo z W hD hI hK
    obtain ⟨⟨f', m1, v, l, h⟩, _⟩ := hI
    have hlen := h.eq
    rw [Nat.sub_self, folL, List.append_nil] at hlen
    subst hlen
    obtain ⟨g', cap', rfl⟩ : ∃ g' cap', v = .slice (some ⟨g', 0, none⟩) K cap' := by
      rcases h.own.2 with ⟨e, _⟩ | ⟨g, cap, _, e, _⟩
      · exact absurd e h.nn
      · exact ⟨g, cap, e⟩
    have c7 := h.lb.at (i := 0) rfl
    have H := Lib.hid h; have HK := Lib.hid hK
    clear h hK HRR
    gi_wp2
    refine ⟨by simp, .inl ⟨_, _, rfl, run_takeDeferred HK.out, ?_⟩⟩
    have q : Quiet1 w.heap.size W (W.putObj D (.deferred none)) := Quiet1.put HK.out (by omega) rfl
    have h' := H.out.quiet q (Nat.le_refl _)
    exact ⟨_, results_tmp rfl _ _ _, g', cap', rfl, h'.own, h'.below⟩
theorem follow_any (n : Nat) (bs : List Bn) (A SA : Option Addr) (c sc : Nat) (ss : List Nat) (f t m : Int) (hn : n ≤ 16) (ho : Okb n bs) (h60 : bs.length ≤ 60) (hK : ss.length ≤ 20) (ht : 0 ≤ t ∧ t < n) (w : World) (hr : Rds w w.heap.size A bs)
    (hl : Lots w w.heap.size SA n ss) (htb : ∀ j s, ss[j]? = some s → Tbl w s n (tb bs j)) (hf : Fst bs ss.length f t m) (hs : Sm ss.length m) :
    Calls Try.prog 55 #[btw n A bs.length c, bnd (f, t, m), .slice SA ss.length sc] w fun e w' => ∃ g cap : Nat, e = .returned (.slice (some ⟨g, 0, none⟩) ss.length cap) ∧
      w'.ownsRow w.heap.size 3 1 (.slice (some ⟨g, 0, none⟩) ss.length cap) ss.length (natV (folL bs ss.length f t m)) ∧ Below w.heap.size w w' :=
  callsIn_wide.1 (follow_in 9 n bs A SA c sc ss f t m (by omega) hn ho h60 hK ht w hr hl htb hf hs)
end
end Go.Proofs.Ytkeimfkaoianmaa
