/- Made: its walk. -/
import Derived.Test.YtkeimfkaoianmaaMad
import Derived.IntWalk
import Derived.Handy
namespace Go.Proofs.Ytkeimfkaoianmaa
open Go.RowKit

theorem own_rds0 {w : World} {B n cap : Nat} {A : Option Addr} {rs : List Bn} (hn : n = rs.length) (h : w.ownsRow B 30 3 (.slice A n cap) n (flat3 rs)) : Rds w w.heap.size A rs := own_rds hn h
theorem bnd_info : (Try.prog.info? 30).map (fun i => (i.zero, i.size, i.bytes)) = some (some (.agg #[.int .i64 0, .int .i64 0, .int .i64 0]), 3, 24) := by kernel_rfl
theorem three_new (W : World) (a b c : Value) (t : TypeId) : ∀ (j : Nat) (u : Value), [a, b, c][j]? = some u → (W.alloc (Obj.cells #[a, b, c] t)).cell? ((⟨W.heap.size, 0, none⟩ : Addr).add j) = some u := by
  intro j u hj
  have e0 : (⟨W.heap.size, 0, none⟩ : Addr).add j = ⟨W.heap.size, j, none⟩ := by unfold Addr.add; split <;> simp_all
  rw [e0]
  exact (Row.made W t #[a, b, c]).at (by simpa using hj)

theorem load_btw {w : World} {g : Nat} {a b : Value} (h : Row w g 28 #[a, b]) : (loadVar 28 ⟨g, 0, none⟩).run Try.prog w = .ok (.agg #[a, b]) w := by
  obtain ⟨k0, k1, _, _⟩ := h.two
  simp [loadVar, go_sem, k0, k1]
section
variable {fn : Func} {p : Tmp} {tmps : Array Value} {w : World} {g : Nat} {a b : Value}
theorem asAddr_ptr (hp : tmps.getD p undef = .pointer (some ⟨g, 0, none⟩)) : (asAddr (tmps.getD p undef)).run Try.prog w = .ok ⟨g, 0, none⟩ w := by rw [hp]; rfl
theorem res_btw (h : fn.results = #[.cell p 28]) (hp : tmps.getD p undef = .pointer (some ⟨g, 0, none⟩)) (hr : Row w g 28 #[a, b]) : (results fn tmps).run Try.prog w = .ok (.agg #[a, b]) w := by
  have hl := load_btw hr
  have ha := asAddr_ptr (w := w) hp
  simp only [results, h]
  simp only [List.mapM_toArray, List.mapM_cons, List.mapM_nil]
  simp [Sem.run_bind, Result.andThen, ha, hl, -Array.getD_eq_getD_getElem?]
end

theorem put2 {w : World} {g : Nat} {t : TypeId} {a b : Value} (h : Row w g t #[a, b]) (u v : Value) : Row ((w.setCell ⟨g, 0, none⟩ u).setCell ⟨g, 1, none⟩ v) g t #[u, v] := (h.put0 u).put1 v
theorem grown_at (W : World) (b o : Nat) (v : Value) : W.grownBy (W.setCell ⟨b, o, none⟩ v) (some b) := ⟨rfl, rfl, rfl, by simp, fun i _ hne => heap_setCell_other W ⟨b, o, none⟩ i v (fun e => hne (by rw [e]))⟩
/-- The bounds stand behind the result's store. -/
theorem Mk.fin {w : World} {X : Array Value} {gb gh hcap : Nat} {h : List Int} {A : Option Addr} {cap : Nat} {bs : List Bn} {W : World} (k : Mk w X gb gh hcap h A cap bs W) (u v : Value) :
    Rds ((W.setCell ⟨w.heap.size + 1, 0, none⟩ u).setCell ⟨w.heap.size + 1, 1, none⟩ v) ((W.setCell ⟨w.heap.size + 1, 0, none⟩ u).setCell ⟨w.heap.size + 1, 1, none⟩ v).heap.size A bs ∧ Below w.heap.size w ((W.setCell ⟨w.heap.size + 1, 0, none⟩ u).setCell ⟨w.heap.size + 1, 1, none⟩ v) := by
  have o1 := k.own.kept (grown_at W (w.heap.size + 1) 0 u) (.inr (fun e => own_row3 k.own k.r (by decide) e.symm))
  have o2 := o1.kept (grown_at _ (w.heap.size + 1) 1 v) (.inr (fun e => own_row3 o1 (k.r.put0 u) (by decide) e.symm))
  exact ⟨own_rds rfl o2, (k.below.setCell (p := ⟨w.heap.size + 1, 0, none⟩) (Nat.le_succ _) _).setCell (p := ⟨w.heap.size + 1, 1, none⟩) (Nat.le_succ _) _⟩
theorem flat3_set : ∀ (bs : List Bn) (k : Nat) (f t m m' : Int), bs[k]? = some (f, t, m) → (flat3 bs).set (k * 3 + 2) (.int .i64 m') = flat3 (bs.set k (f, t, m'))
  | [], k, f, t, m, m', h => by simp at h
  | x :: l, 0, f, t, m, m', h => by
    cases h
    rfl
  | x :: l, k + 1, f, t, m, m', h => by
    have ih := flat3_set l k f t m m' (by simpa using h)
    have e : ∀ (y : Bn) (l : List Bn), flat3 (y :: l) = .int .i64 y.1 :: .int .i64 y.2.1 :: .int .i64 y.2.2 :: flat3 l := fun _ _ => rfl
    rw [List.set_cons_succ, e, e, show (k + 1) * 3 + 2 = k * 3 + 2 + 1 + 1 + 1 by omega, List.set_cons_succ, List.set_cons_succ, List.set_cons_succ, ih]
theorem tdiv_in {M : Int} {k : Int} (h : In64 M) (hk : 1 ≤ k) : In64 (M.tdiv k) := by
  obtain ⟨h1, h2⟩ := h
  unfold In64
  rcases Int.le_total 0 M with h | h
  · have := Int.tdiv_nonneg h (show 0 ≤ k by omega)
    have h3 := Int.tdiv_le_self k h
    omega
  · obtain ⟨m, rfl⟩ : ∃ m, M = -m := ⟨-M, by omega⟩
    rw [Int.neg_tdiv]
    have := Int.tdiv_nonneg (show 0 ≤ m by omega) (show 0 ≤ k by omega)
    have h3 := Int.tdiv_le_self k (show 0 ≤ m by omega)
    omega

/-- Behind the store of a bound's miles. -/
theorem Mk.low {w : World} {X : Array Value} {gb gh hcap : Nat} {h : List Int} {g cap j : Nat} {bs : List Bn} {W : World} {f t m : Int} (k : Mk w X gb gh hcap h (some ⟨g, 0, none⟩) cap bs W) (hj : bs[j]? = some (f, t, m)) (m' : Int) :
    Mk w X gb gh hcap h (some ⟨g, 0, none⟩) cap (bs.set j (f, t, m')) (W.setCell ⟨g, j * 3 + 2, none⟩ (.int .i64 m')) := by
  have st := k.own.stored (j * 3 + 2) (.int .i64 m')
  rw [flat3_set bs j f t m m' hj] at st
  have ne : ∀ g' t C, Row W g' t C → t ≠ 30 → g ≠ g' := fun g' t C hr hne e => own_row3 k.own hr hne (by rw [← e]; rfl)
  have hl : (bs.set j (f, t, m')).length = bs.length := List.length_set
  have hB : w.heap.size ≤ g := by
    rcases k.own.2 with ⟨h', _⟩ | ⟨g', cap', cur, h', hb, _⟩
    · simp at h'
    · cases h'
      exact hb
  refine ⟨k.x.aside (ne _ _ _ k.x (by decide)) _, k.r.aside (ne _ _ _ k.r (by decide)) _, ?_, k.hd.kept st.2 ?_, ?_, k.below.setCell (p := ⟨g, j * 3 + 2, none⟩) hB _⟩
  · rw [hl]; exact k.b.aside (ne _ _ _ k.b (by decide)) _
  · exact own_apart k.hd k.own (by decide)
  · rw [hl]; exact st.1
theorem Mk.drawn {w : World} {X : Array Value} {gb gh hcap : Nat} {h : List Int} {A : Option Addr} {cap : Nat} {bs : List Bn} {W : World} (k : Mk w X gb gh hcap h A cap bs W) : Mk w X gb gh hcap h A cap bs W.drew := k.step ((Below.refl _ _).drew)

set_option maxRecDepth 100000 in
set_option maxHeartbeats 8000000 in
theorem made_any (N : Int) (H : List Int) (HA : Option Addr) (hc : Nat) (BL : List Bn) (BA : Option Addr) (bc : Nat) (M : Int) (hN : In64 N) (hH : ∀ x ∈ H, In64 x) (hHl : H.length ≤ 9223372036854775807)
    (hB : ∀ r ∈ BL, In64 r.1 ∧ In64 r.2.1 ∧ In64 r.2.2) (hBl : BL.length ≤ 9223372036854775807) (hM : In64 M) (w : World) (hr : Nums w w.heap.size HA H) (hb : Rds w w.heap.size BA BL) :
    Calls Try.prog 12 #[nmV N HA H.length hc BA BL.length bc M] w fun e w' => ∃ (A : Option Addr) (cap : Nat), e = .returned (btw (hidN N) A (madeL N H BL M).length cap) ∧ Rds w' w'.heap.size A (madeL N H BL M) ∧ Below w.heap.size w w' := by
  obtain ⟨L, hL⟩ : ∃ L, L = BL.length := ⟨_, rfl⟩
  obtain ⟨HL, hHL⟩ : ∃ HL, HL = H.length := ⟨_, rfl⟩
  obtain ⟨h, hh⟩ : ∃ h, h = hidL N H := ⟨_, rfl⟩
  have hlen : h.length = hidN N := by rw [hh]; exact hidL_len N H
  have hbd : ∀ x ∈ h, -100 ≤ x ∧ x ≤ 99 := by rw [hh]; exact hidL_all N H
  have hn8 := hidN_bd N
  obtain ⟨n, hn⟩ : ∃ n, n = hidN N := ⟨_, rfl⟩
  rw [← hn] at hn8 hlen
  have hhd := fun (W : World) (b : Below w.heap.size w W) => hidden_any N H HA hc BA BL.length bc M hN hH hHl W (hr.deep b)
  have hmi := fun (W : World) => misses_any N HA H.length hc BA BL.length bc M hM W
  obtain ⟨R, hR⟩ : ∃ R, R = madeL N H BL M := ⟨_, rfl⟩
  have hRR : R = lowB M (mk0 h BL) := by rw [hR, hh]; rfl
  rw [← hL, ← hHL, ← hn, ← hR]
  rw [← hL] at hBl
  simp only [← hL, ← hHL, ← hn, ← hh] at hhd hmi
  obtain ⟨i0, hi, hz0, hz1, hz2⟩ := info_parts bnd_info
  obtain ⟨n1, n8⟩ := hn8
  have HHD := Lib.hid hhd; have HMI := Lib.hid hmi; have HRR := Lib.hid hRR; have HLL := Lib.hid hL; have HLEN := Lib.hid hlen; have HBD := Lib.hid hbd; have HBB := Lib.hid hb; have HIN := Lib.hid hB; have HM := Lib.hid hM
  clear hhd hmi hRR hL hlen hbd hb hB hr hH hHl hN hHL hh hn hR hM
  unfold nmV btw at *
  have two : Row ((w.alloc (.cells #[.int .i64 N, .slice HA HL hc, .slice BA L bc, .int .i64 M] 25)).alloc (.cells #[.int .i64 0, .slice none 0 0] 28)) w.heap.size 25 #[.int .i64 N, .slice HA HL hc, .slice BA L bc, .int .i64 M] ∧
      Row ((w.alloc (.cells #[.int .i64 N, .slice HA HL hc, .slice BA L bc, .int .i64 M] 25)).alloc (.cells #[.int .i64 0, .slice none 0 0] 28)) (w.heap.size + 1) 28 #[.int .i64 0, .slice none 0 0] ∧
      Below w.heap.size w ((w.alloc (.cells #[.int .i64 N, .slice HA HL hc, .slice BA L bc, .int .i64 M] 25)).alloc (.cells #[.int .i64 0, .slice none 0 0] 28)) := ⟨(Row.made _ _ _).later _, Row.made_at _ _ _ (by simp), keep_alloc (below_alloc _ _) _⟩
  have TWO := Lib.hid two
  clear two
  go_enter Try.func12, Try.ntmps12
  go_wp2_with (go_at_call 26; (with_reducible refine (HHD.out _ TWO.out.2.2).mono ?_); rintro e w2 ⟨gh, hcap, rfl, ho2, hb2⟩; have O2 := Lib.hid ho2; have B2 := Lib.hid hb2; clear ho2 hb2)
  obtain ⟨gb, hgb⟩ : ∃ gb, gb = w2.heap.size := ⟨_, rfl⟩
  have st : Mk w #[.int .i64 N, .slice HA HL hc, .slice BA L bc, .int .i64 M] gb gh hcap h none 0 [] (w2.alloc (.cells #[.int .i64 (n : Int), .slice none 0 0] 28)) := by
    subst hgb
    refine ⟨(TWO.out.1.step B2.out).later _, (TWO.out.2.1.step B2.out).later _, by rw [HLEN.out]; exact Row.made _ _ _, ?_, ⟨rfl, .inl ⟨rfl, rfl⟩⟩, keep_alloc (below_step TWO.out.2.2 B2.out) _⟩
    rw [HLEN.out]
    exact (own_less O2.out TWO.out.2.2.size).alloc _
  have hgb1 : w.heap.size + 1 < gb := by have h1 := (TWO.out.2.1.step B2.out).inside; omega
  rw [← hgb]
  have ST := Lib.hid st; have HGB := Lib.hid hgb
  clear st hgb
  go_loopg [5, 6] (min 16 L) (fun kx s5 s6 wr => ∃ (k cap : Nat) (A : Option Addr), s5 = .int .i64 (k : Int) ∧ k + kx = min 16 L ∧ Mk w #[.int .i64 N, .slice HA HL hc, .slice BA L bc, .int .i64 M] gb gh hcap h A cap ((BL.take k).map (mkB h)) wr)
  case atStart => exact ⟨0, 0, none, rfl, by omega, by simpa using ST.out⟩
  case round =>
    clear ST
    obtain ⟨k, cap, A, rfl, hk, hM⟩ := hrel
    have x0 := hM.x.at (i := 0) rfl
    have x2 := hM.x.at (i := 2) rfl
    have x3 := hM.x.at (i := 3) rfl
    have b0 := hM.b.two.1
    rw [HLEN.out] at b0
    by_cases hlt : k < 16 ∧ k < L
    · obtain ⟨k16, kL⟩ := hlt
      obtain ⟨⟨y1, y2, y3⟩, hy⟩ : ∃ y, BL[k]? = some y := at_lt (by rw [← HLL.out]; exact kL)
      obtain ⟨bb, o, hA, _, e0, e1, e2⟩ := (HBB.out.below hM.below).at hy
      subst hA
      obtain ⟨i1, i2, i3⟩ := HIN.out _ (List.mem_of_getElem? hy)
      dsimp only at e0 e1 e2 i1 i2 i3
      have p1 := fun W => rpick_any y1 n i1.1 i1.2 (by omega) (by omega) W
      have p2 := fun W => rpick_any y2 n i2.1 i2.2 (by omega) (by omega) W
      have p3 := fun W => rpick_any y3 30 i3.1 i3.2 (by omega) (by omega) W
      have r1 := pk_range (c := y1) (n := n) (by omega)
      have r2 := pk_range (c := y2) (n := n) (by omega)
      have r3 := pk_range (c := y3) (n := 30) (by omega)
      have hmk : (BL.take (k + 1)).map (mkB h) = (BL.take k).map (mkB h) ++ [mkB h (y1, y2, y3)] := by rw [List.take_add_one, hy, List.map_append]; rfl
      have hmb : mkB h (y1, y2, y3) = (pk y1 n, pk y2 n, h.getD (pk y2 n).toNat 0 - h.getD (pk y1 n).toNat 0 + pk y3 30) := by unfold mkB; rw [HLEN.out]
      rw [hmb] at hmk
      clear hmb
      generalize pk y1 n = f at *
      generalize pk y2 n = t at *
      generalize pk y3 30 = z at *
      obtain ⟨f, rfl⟩ := Int.eq_ofNat_of_zero_le r1.1
      obtain ⟨t, rfl⟩ := Int.eq_ofNat_of_zero_le r2.1
      rw [Int.toNat_natCast, Int.toNat_natCast] at hmk
      have f2 : f < n := by omega
      have t2 : t < n := by omega
      have hkL : (k : Int) < (L : Int) := by omega
      have kk : ∀ W, Mk w #[.int .i64 N, .slice HA HL hc, .slice (some ⟨bb, o, none⟩) L bc, .int .i64 M] gb gh hcap h A cap ((BL.take k).map (mkB h)) W → (Hid (Mk w #[.int .i64 N, .slice HA HL hc, .slice (some ⟨bb, o, none⟩) L bc, .int .i64 M] gb gh hcap h A cap ((BL.take k).map (mkB h)) W) ∧ W.cell? ⟨w.heap.size, 2, none⟩ = some (.slice (some ⟨bb, o, none⟩) L bc) ∧ W.cell? ⟨bb, o + k * 3, none⟩ = some (.int .i64 y1) ∧ W.cell? ⟨bb, o + k * 3 + 1, none⟩ = some (.int .i64 y2) ∧ W.cell? ⟨gb, 0, none⟩ = some (.int .i64 (n : Int))) := fun W h => by
        obtain ⟨_, _, hA', _, q0, q1, _⟩ := (HBB.out.below h.below).at hy
        cases hA'
        exact ⟨Lib.hid h, h.x.at (i := 2) rfl, q0, q1, by have := h.b.two.1; rw [HLEN.out] at this; exact this⟩
      have gg : ∀ W, (Hid (Mk w #[.int .i64 N, .slice HA HL hc, .slice (some ⟨bb, o, none⟩) L bc, .int .i64 M] gb gh hcap h A cap ((BL.take k).map (mkB h)) W) ∧ W.cell? ⟨w.heap.size, 2, none⟩ = some (.slice (some ⟨bb, o, none⟩) L bc) ∧ W.cell? ⟨bb, o + k * 3, none⟩ = some (.int .i64 y1) ∧ W.cell? ⟨bb, o + k * 3 + 1, none⟩ = some (.int .i64 y2) ∧ W.cell? ⟨gb, 0, none⟩ = some (.int .i64 (n : Int))) → Mk w #[.int .i64 N, .slice HA HL hc, .slice (some ⟨bb, o, none⟩) L bc, .int .i64 M] gb gh hcap h A cap ((BL.take k).map (mkB h)) W := fun W h => h.1.out
      have KK := Lib.hid kk; have GG := Lib.hid gg
      have P1 := Lib.hid p1; have P2 := Lib.hid p2; have P3 := Lib.hid p3; have HMK := Lib.hid hmk; have MM := Lib.hid hM; have HY := Lib.hid hy
      clear p1 p2 p3 hmk hM hy i1 i2 i3 kk gg
      have hst : ∀ (W X : World), Mk w #[.int .i64 N, .slice HA HL hc, .slice (some ⟨bb, o, none⟩) L bc, .int .i64 M] gb gh hcap h A cap ((BL.take k).map (mkB h)) W → Below W.heap.size W X → Mk w #[.int .i64 N, .slice HA HL hc, .slice (some ⟨bb, o, none⟩) L bc, .int .i64 M] gb gh hcap h A cap ((BL.take k).map (mkB h)) X := fun W X h hb => h.step hb
      have HST := Lib.hid hst
      clear hst
      go_upto_region 6 with (fail)
      go_cut [6] (fun s6 W => s6 = .pointer (some ⟨wr.heap.size, 0, none⟩) ∧ Row W wr.heap.size 30 #[.int .i64 (f : Int), .int .i64 (t : Int), .int .i64 0] ∧ Below wr.heap.size wr W ∧ Mk w #[.int .i64 N, .slice HA HL hc, .slice (some ⟨bb, o, none⟩) L bc, .int .i64 M] gb gh hcap h A cap ((BL.take k).map (mkB h)) W)
      case first =>
        go_region_held3 (fun W => (Hid (Mk w #[.int .i64 N, .slice HA HL hc, .slice (some ⟨bb, o, none⟩) L bc, .int .i64 M] gb gh hcap h A cap ((BL.take k).map (mkB h)) W) ∧ W.cell? ⟨w.heap.size, 2, none⟩ = some (.slice (some ⟨bb, o, none⟩) L bc) ∧ W.cell? ⟨bb, o + k * 3, none⟩ = some (.int .i64 y1) ∧ W.cell? ⟨bb, o + k * 3 + 1, none⟩ = some (.int .i64 y2) ∧ W.cell? ⟨gb, 0, none⟩ = some (.int .i64 (n : Int))))
          (first | assumption | exact KK.out _ (HST.out _ _ MM.out ((Below.refl _ _).drew)) | exact KK.out _ MM.out | exact KK.out _ (HST.out _ _ (GG.out _ (by assumption)) ((Below.refl _ _).drew)) | exact KK.out _ (HST.out _ _ (GG.out _ (by assumption)) (below_alloc _ _)) | exact KK.out _ (HST.out _ _ MM.out ((below_alloc _ _).drew)) | fail)
          (first | (go_at_call 38; (first | ((with_reducible refine (P1.out _).mono ?_); rintro e wx ⟨rfl, hwx⟩; have hwx := hwx.symm; subst hwx) | ((with_reducible refine (P2.out _).mono ?_); rintro e wx ⟨rfl, hwx⟩; have hwx := hwx.symm; subst hwx))) | fail)
        all_goals go_wp2_with fail
        all_goals go_meet
        all_goals (case rel => exact ⟨rfl, by first | exact (Row.made _ _ _).drawn | exact Row.made _ _ _, by first | exact (below_alloc _ _).drew | exact keep_alloc ((Below.refl _ _).drew) _, by first | exact HST.out _ _ MM.out ((below_alloc _ _).drew) | exact HST.out _ _ (HST.out _ _ MM.out ((Below.refl _ _).drew)) (below_alloc _ _)⟩)
      case rest =>
        obtain ⟨rfl, rY, hbw, hM⟩ := hcut
        have HBW := Lib.hid hbw
        clear hbw
        have nh := own_intNums hM.hd
        have hfx : h[f]? = some (h.getD f 0) := by rw [List.getD_eq_getElem?_getD, List.getElem?_eq_getElem (by rw [HLEN.out]; exact f2)]; rfl
        have htx : h[t]? = some (h.getD t 0) := by rw [List.getD_eq_getElem?_getD, List.getElem?_eq_getElem (by rw [HLEN.out]; exact t2)]; rfl
        have gf := getD_bd HBD.out f
        have gt := getD_bd HBD.out t
        obtain ⟨hf, hhf⟩ : ∃ hf, hf = h.getD f 0 := ⟨_, rfl⟩
        obtain ⟨ht, hht⟩ : ∃ ht, ht = h.getD t 0 := ⟨_, rfl⟩
        rw [← hhf] at hfx gf
        rw [← hht] at htx gt
        obtain ⟨_, _, hA1, _, c1⟩ := nh.at hfx
        cases hA1
        obtain ⟨_, _, hA2, _, c2⟩ := nh.at htx
        cases hA2
        rw [Nat.zero_add] at c1 c2
        obtain ⟨s0, s1, s2, s3, s4, s5⟩ := rY.three
        obtain ⟨_, _, hA', _, _, _, q2⟩ := (HBB.out.below hM.below).at HY.out
        cases hA'
        dsimp only at q2
        have v2 := hM.x.at (i := 2) rfl
        have w1 : IntKind.i64.wrap (ht - hf) = ht - hf := IntWalk.i64_in _ (by omega)
        have w2' : IntKind.i64.wrap (ht - hf + z) = ht - hf + z := IntWalk.i64_in _ (by omega)
        have ftn : (f : Int) < (n : Int) ∧ (t : Int) < (n : Int) := ⟨by omega, by omega⟩
        obtain ⟨fn', tn'⟩ := ftn
        have hmk2 : (BL.take (k + 1)).map (mkB h) = (BL.take k).map (mkB h) ++ [((f : Int), (t : Int), ht - hf + z)] := by rw [HMK.out, hhf, hht]
        have MM2 := Lib.hid hM; have RY := Lib.hid rY; have HMK2 := Lib.hid hmk2
        clear hM nh hfx htx hhf hht rY hmk2 x0 x2 x3 b0 e0 e1 e2
        go_upto_region 7 with (fail)
        refine wp_region_still_tail 20 (by kernel_rfl) (by kernel_rfl) ?_
        simp only [List.take_succ_cons, List.take_zero, List.drop_succ_cons, List.drop_zero]
        repeat (first | still_step | still_call (P3.out _))
        try refine wpStill_nil ?_
        change wpList _ _ _ _ _ wc.drew
        clear c1 c2 s0 s1 q2 v2 w1 w2'
        go_upto_region 8 with (fail)
        obtain ⟨W7, hW7⟩ : ∃ W7, W7 = (wc.setCell ⟨wr.heap.size, 2, none⟩ (.int .i64 (ht - hf + z))).drew := ⟨_, rfl⟩
        rw [← hW7]
        have b7 : Below wr.heap.size wr W7 := by rw [hW7]; exact (HBW.out.setCell (p := ⟨wr.heap.size, 2, none⟩) (Nat.le_refl _) _).drew
        have m7 := HST.out _ _ MM.out b7
        have r7 : Row W7 wr.heap.size 30 #[.int .i64 (f : Int), .int .i64 (t : Int), .int .i64 (ht - hf + z)] := by rw [hW7]; exact (RY.out.stored 2 _).drawn
        obtain ⟨t0, t1, t3, _, _, _⟩ := r7.three
        obtain ⟨_, u1, _, u3⟩ := m7.b.two
        have hl7 : ((BL.take k).map (mkB h)).length = k := by rw [List.length_map, List.length_take, ← HLL.out]; omega
        have how := m7.own
        rw [hl7] at how u1
        have hbase : w.heap.size ≤ (W7.alloc (.cells #[.int .i64 (f : Int), .int .i64 (t : Int), .int .i64 (ht - hf + z)] 30)).heap.size := by have := m7.below.size; simp; omega
        have M7 := Lib.hid m7; have OW := Lib.hid how; have HL7 := Lib.hid hl7
        clear hW7 b7 m7 r7 how hl7
        go_wp2_with (at_builtin; refine wpList_append_own _ rfl _ _ 26 rfl w.heap.size 30 i0 (.agg #[.int .i64 0, .int .i64 0, .int .i64 0]) 3 24 Try.underlying26 hi hz0 hz1 hz2 rfl (by decide) _ _ _ rfl (OW.out.alloc _) ⟨W7.heap.size, 0, none⟩ 1 1 [.int .i64 (f : Int), .int .i64 (t : Int), .int .i64 (ht - hf + z)] rfl rfl (three_new W7 _ _ _ _) (by simp [Value.oneCell']) (by unfold maxLen; omega) (by omega) hbase ?_; intro v' w8 own8 hg8 _; obtain ⟨g', cap', rfl⟩ := ownsRow_succ own8; have nx := Mk.next (c := ((f : Int), (t : Int), ht - hf + z)) HL7.out.symm (M7.out.step (below_alloc _ _)) hgb1 hg8 own8; obtain ⟨n1, n2⟩ := nx; obtain ⟨_, _, n3, n4⟩ := n1.two; have N2 := Lib.hid n2; clear own8 hg8 n1 n2)
        go_roundg (min 16 L - (k + 1))
        case measure => omega
        case rel => exact ⟨k + 1, cap', _, by go_num, by omega, by rw [HMK2.out]; exact N2.out⟩
    · obtain rfl : k = min 16 L := by omega
      have hm0 : (BL.take (min 16 L)).map (mkB h) = mk0 h BL := by
        unfold mk0
        rcases Nat.le_total 16 L with e | e
        · rw [Nat.min_eq_left e]
        · rw [Nat.min_eq_right e, List.take_of_length_le (by rw [← HLL.out]; exact Nat.le_refl _), List.take_of_length_le (by rw [← HLL.out]; exact e)]
      rw [hm0] at hM
      obtain ⟨bs, hbs⟩ : ∃ bs, bs = mk0 h BL := ⟨_, rfl⟩
      rw [← hbs] at hM
      obtain ⟨K, hK⟩ : ∃ K, K = bs.length := ⟨_, rfl⟩
      have hK16 : K ≤ 16 := by rw [hK, hbs, mk0_len]; omega
      have hRb : R = lowB M bs := by rw [HRR.out, hbs]
      obtain ⟨rr0, rr1, rf0, rf1⟩ := hM.r.two
      have b1 := hM.b.two.2.1
      rw [← hK] at b1
      have x1 := hM.x.at (i := 1) rfl
      have hor : ¬ ((min 16 L) < L ∧ (min 16 L) < 16) := by omega
      have MM := Lib.hid hM; have HRB := Lib.hid hRb; have HK := Lib.hid hK; have HBS := Lib.hid hbs
      clear hM hbs hRb hK hm0 hk hlt
      obtain ⟨q, hq⟩ : ∃ q, q = missB M := ⟨_, rfl⟩
      rw [← hq] at HMI
      have HQ := Lib.hid hq
      clear hq
      rcases (show (((min 16 L : Nat) : Int) < (L : Int) ∧ ¬ ((min 16 L : Nat) : Int) < 16) ∨ ¬ ((min 16 L : Nat) : Int) < (L : Int) by omega) with ⟨q1, q2⟩ | q1
      all_goals
        cases q
        · have hRs : R = bs := by rw [HRB.out, lowB, if_neg (by rw [← HQ.out]; simp)]
          have HRS := Lib.hid hRs
          clear hRs
          go_wp2_with (go_at_call 35; (with_reducible refine (HMI.out _).mono ?_); rintro e w9 ⟨rfl, b9⟩; have M9 := Lib.hid (MM.out.step b9); obtain ⟨c0, c1, _, _⟩ := M9.out.b.two; obtain ⟨d0, d1, d2, d3⟩ := M9.out.r.two; rw [← HK.out] at c1; rw [HLEN.out] at c0; clear b9)
          all_goals (refine bodyPost_ret (res_btw rfl rfl (put2 M9.out.r _ _)) rfl ?_; have hf := M9.out.fin (.int .i64 (n : Int)) (.slice A K cap); exact ⟨A, cap, by rw [HRS.out, ← HK.out], by rw [HRS.out]; exact hf.1, hf.2⟩)
        · by_cases hK0 : K = 0
          · have hbn : bs = [] := List.eq_nil_of_length_eq_zero (by rw [← HK.out]; exact hK0)
            have hRs : R = bs := by rw [HRB.out, lowB, if_neg (by rw [hbn]; simp)]
            have HRS := Lib.hid hRs
            clear hRs hbn
            subst hK0
            go_wp2_with (go_at_call 35; (with_reducible refine (HMI.out _).mono ?_); rintro e w9 ⟨rfl, b9⟩; have M9 := Lib.hid (MM.out.step b9); obtain ⟨c0, c1, _, _⟩ := M9.out.b.two; obtain ⟨d0, d1, d2, d3⟩ := M9.out.r.two; rw [← HK.out] at c1; rw [HLEN.out] at c0; clear b9)
            all_goals (refine bodyPost_ret (res_btw rfl rfl (put2 M9.out.r _ _)) rfl ?_; have hf := M9.out.fin (.int .i64 (n : Int)) (.slice A 0 cap); exact ⟨A, cap, by rw [HRS.out, ← HK.out], by rw [HRS.out]; exact hf.1, hf.2⟩)
          · have hK1 : 0 < K := by omega
            have hKp : (0 : Int) < (K : Int) := by omega
            have i3 := tdiv_in HM.out (show (1 : Int) ≤ 3 by omega)
            have i60 := tdiv_in HM.out (show (1 : Int) ≤ 60 by omega)
            have p3 := fun W => rpick_any (M.tdiv 3) K i3.1 i3.2 (by omega) (by omega) W
            have p60 := fun W => rpick_any (M.tdiv 60) 60 i60.1 i60.2 (by omega) (by omega) W
            have w3 : wrap64 (M.tdiv 3) = M.tdiv 3 := by have := i3; unfold In64 at this; unfold wrap64; omega
            have w60 : IntKind.i64.wrap (M.tdiv 60) = M.tdiv 60 := IntWalk.i64_in _ i60
            have r3 := pk_range (c := M.tdiv 3) (n := K) (by omega)
            have r60 := pk_range (c := M.tdiv 60) (n := 60) (by omega)
            have hRs : R = lowAt bs (pk (M.tdiv 3) K).toNat (pk (M.tdiv 60) 60) := by
              rw [HRB.out, lowB, if_pos ⟨HQ.out.symm, fun e => by rw [HK.out, e] at hK0; exact hK0 rfl⟩, ← HK.out]
            generalize pk (M.tdiv 3) K = j at *
            generalize pk (M.tdiv 60) 60 = d at *
            obtain ⟨j, rfl⟩ := Int.eq_ofNat_of_zero_le r3.1
            rw [Int.toNat_natCast] at hRs
            have hjK : j < K := by omega
            obtain ⟨⟨cf, ct, cm⟩, hcj⟩ : ∃ y, bs[j]? = some y := at_lt (by rw [← HK.out]; exact hjK)
            have hmem : (cf, ct, cm) ∈ mk0 h BL ∨ True := .inr trivial
            obtain ⟨g, rfl⟩ : ∃ g, A = some ⟨g, 0, none⟩ := by
              rcases MM.out.own.2 with ⟨_, h1⟩ | ⟨g, _, _, hv, _⟩
              · rw [← HK.out] at h1; omega
              · cases hv
                exact ⟨g, rfl⟩
            have hcm := mk0_mem (by rw [HLEN.out]; omega) HBD.out (HBS.out ▸ List.mem_of_getElem? hcj)
            obtain ⟨_, _, _, m1, m2⟩ := hcm
            dsimp only at m1 m2
            obtain ⟨_, dlt⟩ := r60
            obtain ⟨d, rfl⟩ := Int.eq_ofNat_of_zero_le ‹0 ≤ d›
            have hRs2 : R = bs.set j (cf, ct, cm - 10 - (d : Int)) := by
              rw [hRs, lowAt, List.getD_eq_getElem?_getD, hcj]; rfl
            have v1 : IntKind.i64.wrap (cm - 10) = cm - 10 := IntWalk.i64_in _ (by omega)
            have v2 : IntKind.i64.wrap (cm - 10 - (d : Int)) = cm - 10 - (d : Int) := IntWalk.i64_in _ (by omega)
            have P3 := Lib.hid p3; have P60 := Lib.hid p60; have HRS := Lib.hid hRs2; have HCJ := Lib.hid hcj
            clear p3 p60 hRs hRs2 hcj hmem i3 i60
            go_upto_region 11 with (first
              | (go_at_call 35; (with_reducible refine (HMI.out _).mono ?_); rintro e w9 ⟨rfl, b9⟩; have M9 := Lib.hid (MM.out.step b9); obtain ⟨c0, c1, _, _⟩ := M9.out.b.two; obtain ⟨d0, d1, d2, d3⟩ := M9.out.r.two; have z3 := M9.out.x.at (i := 3) rfl; rw [← HK.out] at c1; rw [HLEN.out] at c0; have own9 := M9.out.own; have cj := (own9.cellAt (j * 3 + 2) (by rw [← HK.out]; omega)).trans (flat3_at _ _ _ HCJ.out).2.2; have fj := own9.frozenAt (j * 3 + 2); clear own9; clear b9)
              | (go_at_call 38; try rw [w3]; (with_reducible refine (P3.out _).mono ?_); rintro e wx ⟨rfl, hwx⟩; have hwx := hwx.symm; subst hwx))
            refine wp_region_still_tail 17 (by kernel_rfl) (by kernel_rfl) ?_
            simp only [List.take_succ_cons, List.take_zero, List.drop_succ_cons, List.drop_zero]
            repeat (first | still_step | (rw [w60]; still_call (P60.out _)) | still_call (P60.out _))
            try refine wpStill_nil ?_
            change wpList _ _ _ _ _ w9.drew
            go_wp2
            have M10 := Lib.hid (M9.out.low HCJ.out (cm - 10 - (d : Int))).drawn
            have e10 := HRS.out
            refine bodyPost_ret (res_btw rfl rfl (put2 M10.out.r _ _)) rfl ?_
            have hf := M10.out.fin (.int .i64 (n : Int)) (.slice (some ⟨g, 0, none⟩) K cap)
            exact ⟨some ⟨g, 0, none⟩, cap, by rw [HRS.out, List.length_set, ← HK.out], by rw [HRS.out]; exact hf.1, hf.2⟩
end Go.Proofs.Ytkeimfkaoianmaa
