/- DiskCut: its walk. -/
import Derived.Test.YtghcffpcblficaaLv
import Derived.Test.YtghcffpcblficaaSn
namespace Go.Proofs.Ytghcffpcblficaa
open Go.RowKit Go.Lib

/-- The disk of the law at its k-th write. -/
structure Cs (N M k : Nat) (d : Dk) (buf : List UInt8) : Prop where
  v : d.vis = buf
  lost : d.lost = decide (M ≤ k)
  left : d.left = M - k
  pend : d.pend.length = min k M
theorem Cs.write {N M k : Nat} {d : Dk} {buf : List UInt8} {q : Nat × ByteArray} (c : Cs N M k d buf) (hN : d.dur.length = N) (hf : q.1 + q.2.size ≤ N) (hk : k < M) :
    writeE d q.1 q.2 = 0 ∧ Cs N M (k + 1) (writeD d q.1 q.2) (putB buf q) ∧ (writeD d q.1 q.2).dur.length = N := by
  have hl : d.lost = false := by rw [c.lost]; exact decide_eq_false (by omega)
  have hh : hasB d.dur.length q.1 q.2.size = true := by rw [hasB_iff]; omega
  have hE : writeE d q.1 q.2 = 0 := by unfold writeE; rw [hl, hh]; rfl
  refine ⟨hE, ?_, by rw [writeD_len, hN]⟩
  unfold writeD
  rw [hE, if_pos rfl, Int.toNat_natCast]
  unfold wroteD
  have hp : 0 < d.left := by rw [c.left]; omega
  rw [if_pos (by exact hp)]
  refine ⟨by show putB d.vis q = _; rw [c.v], ?_, ?_, ?_⟩
  · show (d.left == 1) = _
    rw [c.left, Bool.eq_iff_iff, beq_iff_eq, decide_eq_true_eq]
    omega
  · show d.left - 1 = _
    rw [c.left]; omega
  · show (d.pend ++ [q]).length = _
    rw [List.length_append, c.pend]
    simp
    omega
theorem Cs.stop {N M k : Nat} {d : Dk} {buf : List UInt8} {o : Int} {s : ByteArray} (c : Cs N M k d buf) (hk : M ≤ k) : writeE d o s = 91 ∧ writeD d o s = d ∧ Cs N M (k + 1) d buf := by
  have hl : d.lost = true := by rw [c.lost]; exact decide_eq_true hk
  have hE : writeE d o s = 91 := by unfold writeE; rw [hl]; rfl
  refine ⟨hE, by unfold writeD; rw [hE]; rfl, c.v, by rw [hl, decide_eq_true (by omega)], by rw [c.left]; omega, by rw [c.pend]; omega⟩
set_option maxRecDepth 100000 in
set_option maxHeartbeats 16000000 in
theorem cu_walk (size num : Int) (s1 : In64 size) (nm1 : In64 num) (l : List Wp) (A : Option Addr) (cap : Nat) (w : World) (hl : WpsC w A l) (hg : ∀ y ∈ l, GoodW y) (h63 : l.length ≤ 9223372036854775807) :
    Calls Try.prog 10 #[.int .i64 size, .int .i64 num, .slice A l.length cap] w fun e w' => e = .returned (.bool true) ∧ Below w.heap.size w w' := by
  have SAN := Lib.hid sane_any
  obtain ⟨N, z, he, h1, hM, hz0, hpk⟩ : ∃ (N : Nat) (z : Int), (1 : Int) + z = N ∧ 1 ≤ N ∧ N ≤ 100 ∧ (0 ≤ z ∧ z < 100) ∧ ∀ W : World, Calls Try.prog 15 #[.int .i64 size, .int .i64 100] W fun e w' => e = .returned (.int .i64 z) ∧ w' = W := by
    have hl := pkn_lt (c := size) (n := 100) (by decide)
    exact ⟨pkn size 100 + 1, (pkn size 100 : Int), by omega, by omega, by omega, by omega, fun W => pickn_any size 100 s1.1 s1.2 (by decide) (by decide) W⟩
  have PK := Lib.hid hpk
  have NW := Lib.hid (fun W (h : Below w.heap.size w W) => new_ld h N h1 (by omega))
  clear hpk s1
  have hmk : ∀ W : World, (Instr.makeSlice 40 (.int .i64 (N : Int)) (.int .i64 (N : Int))).run Try.prog W = .ok (.slice (some ⟨W.heap.size, 0, none⟩) N N) (W.alloc (.cells (byteCells (List.replicate N 0)).toArray 5)) := fun W => make_bytes W N (by omega)
  obtain ⟨n, hn⟩ : ∃ n, n = l.length := ⟨_, rfl⟩
  rw [← hn] at h63 ⊢
  obtain ⟨M, hM20, hpm⟩ : ∃ M : Nat, M < 20 ∧ ∀ W : World, Calls Try.prog 15 #[.int .i64 num, .int .i64 20] W fun e w' => e = .returned (.int .i64 M) ∧ w' = W :=
    ⟨pkn num 20, pkn_lt (by decide), fun W => pickn_any num 20 nm1.1 nm1.2 (by decide) (by decide) W⟩
  obtain ⟨j0, kj, kz0, kz1, kz2⟩ := info_parts int_info
  have PM := Lib.hid hpm
  have HL := Lib.hid hl; have HG := Lib.hid hg; have HN := Lib.hid hn; have INF := Lib.hid (And.intro kj (And.intro kz0 (And.intro kz1 kz2)))
  clear hl hg hn kj kz0 kz1 kz2 hpm nm1
  go_enter Try.func10, Try.ntmps10
  go_upto_region 2 with (go_at_call 12; (with_reducible refine (SAN.out _).mono ?_); rintro e w1 ⟨rfl, bs⟩; have B1 := Lib.hid bs; clear bs)
  go_upto_region 3 with (go_at_call 15; (with_reducible refine (PK.out _).mono ?_); rintro e w2 ⟨rfl, rfl⟩)
  go_upto_region 5 with first | (go_at_call 15; (with_reducible refine (PM.out _).mono ?_); rintro e w2 ⟨rfl, rfl⟩) | (go_at_call 13; (refine (NW.out _ B1.out).mono ?_); rintro e w3 ⟨g, a, b, rfl, l, _, _, _, _, _, la, lb⟩; have L0 := Lib.hid l; clear l)
  have hc1 := L0.out.cut ((M : Int) + 5) (by omega)
  have e1 : cutE (newD N) ((M : Int) + 5) = 0 := by
    show (if false = true then (91 : Int) else if (M : Int) + 5 < 0 then 2 else 0) = 0
    rw [if_neg Bool.false_ne_true, if_neg (by omega)]
  have hd1 : cutD (newD N) ((M : Int) + 5) = { newD N with lost := false, left := M + 5 } := by
    unfold cutD
    rw [e1, if_pos rfl]
    have : (((M : Int) + 5) == 0) = false := by simp; omega
    rw [this, show ((M : Int) + 5).toNat = M + 5 by omega]
  rw [e1, hd1] at hc1
  obtain ⟨d1, hdd1⟩ : ∃ d1, d1 = ({ newD N with lost := false, left := M + 5 } : Dk) := ⟨_, rfl⟩
  rw [← hdd1] at hc1
  have e2 : cutE d1 (M : Int) = 0 := by
    rw [hdd1]
    show (if false = true then (91 : Int) else if (M : Int) < 0 then 2 else 0) = 0
    rw [if_neg Bool.false_ne_true, if_neg (by omega)]
  have hd2 : cutD d1 (M : Int) = { newD N with lost := (M : Int) == 0, left := M } := by
    unfold cutD
    rw [e2, if_pos rfl, Int.toNat_natCast, hdd1]
  obtain ⟨d2, hdd2⟩ : ∃ d2, d2 = ({ newD N with lost := (M : Int) == 0, left := M } : Dk) := ⟨_, rfl⟩
  rw [← hdd2] at hd2
  have cs0 : Cs N M 0 d2 (List.replicate N 0) := by
    rw [hdd2]
    refine ⟨rfl, ?_, rfl, by simp [newD]⟩
    show ((M : Int) == 0) = decide (M ≤ 0)
    rw [Bool.eq_iff_iff, beq_iff_eq, decide_eq_true_eq]; omega
  have hl2 : d2.dur.length = N := by rw [hdd2]; exact zeros_len N
  have hc2 : ∀ W : World, Ld w W g a b d1 → Calls Try.prog 24 #[.pointer (some ⟨g, 0, none⟩), .int .i64 M] W fun e w' => e = .returned (.int .i64 0) ∧ Ld w w' g a b d2 ∧ Stay W w' a b := fun W hW => by
    have := hW.cut (M : Int) (by omega)
    rw [e2, hd2] at this
    exact this
  have C1 := Lib.hid hc1; have C2 := Lib.hid hc2; have CS0 := Lib.hid cs0; have HL2 := Lib.hid hl2
  clear hc1 hc2 e1 e2 hd1 hd2 hdd1 hdd2 cs0 hl2
  go_upto_region 7 with first | (go_at_call 24; (with_reducible refine (C1.out).mono ?_); rintro e w4 ⟨rfl, l4, _⟩; have C3 := Lib.hid (C2.out _ l4); clear l4) | (go_at_call 24; (with_reducible refine (C3.out).mono ?_); rintro e w5 ⟨rfl, l5, _⟩; have L5 := Lib.hid l5; clear l5)
  go_upto_region 8 with (fail)
  obtain ⟨W6, hW6⟩ : ∃ W, W = w5.alloc (.cells (byteCells (List.replicate N 0)).toArray 5) := ⟨_, rfl⟩
  rw [← hW6]
  have la5 : a < w5.heap.size ∧ b < w5.heap.size := by
    obtain ⟨⟨pv, m⟩, _⟩ := L5.out
    exact ⟨m.a.inside, m.b.inside⟩
  have lb0 : Lb w W6 g a b w5.heap.size N d2 (List.replicate N 0) := by
    rw [hW6]
    exact ⟨L5.out.step (below_alloc _ _), Row.made _ _ _, fun e => by omega, fun e => by omega, L5.out.bel.size, HL2.out, by simp⟩
  obtain ⟨gb, hgb⟩ : ∃ gb, gb = w5.heap.size := ⟨_, rfl⟩
  rw [← hgb] at lb0 ⊢
  have LB := Lib.hid lb0
  clear lb0 hW6 hgb hmk la lb la5 L0 L5 NW SAN PK PM he hz0 C1 C2 HL2
  go_wp2
  go_loopg [11, 12, 13, 14] n (fun kx s11 s12 s13 s14 wr => ∃ (k j : Nat) (d : Dk) (buf : List UInt8) (VA : Option Addr) (vc : Nat), s12 = .int .i64 (k : Int) ∧ k + kx = n ∧ k ≤ 40 ∧ s11 = .slice VA j vc ∧ Hid (j = min k M) ∧ wr.ownsRow w.heap.size 3 1 (.slice VA j vc) j (iV (upto j)) ∧ Lb w wr g a b gb N d buf ∧ Cs N M k d buf)
  case atStart => exact ⟨0, 0, d2, List.replicate N 0, none, 0, rfl, by omega, by omega, rfl, Lib.hid (by omega), World.ownsRow_nil _ _ _ _, LB.out, CS0.out⟩
  case round =>
    clear LB CS0
    obtain ⟨k, j, d, buf, VA, vc, rfl, hk, hk40, rfl, HJ, hO, hM, hC⟩ := hrel
    by_cases hlt : k < n ∧ k < 40
    · obtain ⟨hlt, hlt2⟩ := hlt
      obtain ⟨p, hpk⟩ : ∃ p, l[k]? = some p := at_lt (by rw [← HN.out]; exact hlt)
      have hgd := HG.out p (List.mem_of_getElem? hpk)
      obtain ⟨bb, o, rfl, e0, e1, e2⟩ := HL.out.at hM.l.bel hpk
      obtain ⟨po, ps, y⟩ := p
      obtain ⟨⟨g1, g2⟩, g3⟩ := hgd
      dsimp only at e0 e1 e2 g1 g2 g3
      have hft := fun W => fits_any po ps y N g1 g2 g3 (by omega) W
      have hpf := fitP_fit N po ps
      obtain ⟨q, hq⟩ : ∃ q, q = fitP N po ps := ⟨_, rfl⟩
      rw [← hq] at hft hpf
      obtain ⟨qo, qs⟩ := q
      dsimp only at hft hpf
      have FT := Lib.hid hft; have HQ := Lib.hid hq; have HPK := Lib.hid hpk
      have kLi : (k : Int) < (n : Int) := by omega
      have kLj : (k : Int) < 40 := by omega
      clear hft hq hpk
      go_upto_region 13 with (go_at_call 26; (with_reducible refine (FT.out _).mono ?_); rintro e w5 ⟨rfl, b5⟩; have B5 := Lib.hid b5; clear b5)
      obtain ⟨W1, hW1⟩ : ∃ W1, W1 = w5.alloc (.cells #[.int .i64 qo, .string qs, .bool y] 53) := ⟨_, rfl⟩
      rw [← hW1]
      have rb : Row W1 w5.heap.size 53 #[.int .i64 qo, .string qs, .bool y] := by rw [hW1]; exact Row.made _ _ _
      have b6 : Below wr.heap.size wr W1 := by rw [hW1]; exact keep_alloc B5.out _
      obtain ⟨vb, hvb⟩ : ∃ vb, vb = w5.heap.size := ⟨_, rfl⟩
      rw [← hvb] at rb ⊢
      obtain ⟨x0, x1, x2, _, _, _⟩ := rb.three
      have RB := Lib.hid rb; have B6 := Lib.hid b6
      clear hW1 rb b6 e0 e1 e2 B5 FT hvb
      have m1 := hM.step B6.out
      have o1 := own_over hO (B6.out.mono (Nat.le_refl _))
      have CC := Lib.hid hC; have M1 := Lib.hid m1; have O1 := Lib.hid o1
      clear hM hC hO m1 o1
      by_cases hkm : k < M
      · have kMi : (k : Int) < (M : Int) := by omega
        obtain ⟨hE, hC2, hL2⟩ := CC.out.write (q := (qo, qs)) M1.out.hn hpf hkm
        have hw := M1.out.l.write (by rw [CC.out.pend]; omega) qo (by omega) (by have := M1.out.l.ok.small; have := M1.out.hn; omega) qs (by have := M1.out.l.ok.small; have := M1.out.hn; omega)
        rw [hE] at hw
        obtain ⟨d3, hd3⟩ : ∃ d3, d3 = writeD d qo qs := ⟨_, rfl⟩
        rw [← hd3] at hw hC2 hL2
        have HW := Lib.hid hw; have CC2 := Lib.hid hC2; have HL3 := Lib.hid hL2
        clear hw hC2 hL2 hE hd3
        go_upto_region 14 with (go_at_call 21; (with_reducible refine (HW.out).mono ?_); rintro e w7 ⟨rfl, l7, st⟩; have m3 := M1.out.turn l7 st HL3.out; have rb3 := st.box RB.out; have O3 := Lib.hid (st.ints _ _ _ _ O1.out); have pt := put_any gb N N buf m3.hl (by omega) qo qs hpf _ m3.r; have M3 := Lib.hid m3; have PT := Lib.hid pt; clear l7 st x0 x1 x2 m3 pt; obtain ⟨x0, x1, x2, _, _, _⟩ := rb3.three; clear rb3)
        go_upto_region 16 with (go_at_call 27; (with_reducible refine (PT.out).mono ?_); rintro e w8 ⟨rfl, rp, kp⟩; have M4 := Lib.hid (M3.out.fill (buf' := putB buf (qo, qs)) kp rp (by rw [putB_len (by rw [M3.out.hl]; exact hpf)]; exact M3.out.hl)); have O4 := Lib.hid (own_kept O3.out kp (fun i hi e => own_ne M3.out.r O3.out (by decide) (by rw [hi, e]))); clear rp kp)
        obtain rfl : j = k := by have := HJ.out; omega
        have own2 : (w8.alloc (.cells #[.int .i64 (j : Int)] 3)).ownsRow w.heap.size 3 1 (.slice VA j vc) j (iV (upto j)) := O4.out.alloc _
        have l2 := M4.out.step (below_alloc w8 (.cells #[.int .i64 (j : Int)] 3))
        have hnew := new_at w8 3 [.int .i64 (j : Int)]
        have hbase := l2.l.bel.size
        have OWN := Lib.hid own2; have L2 := Lib.hid l2; have HNEW := Lib.hid hnew
        clear own2 l2 hnew x0 x1 x2
        go_wp2_with (at_builtin; go_loud (refine wpList_append_own _ rfl _ _ 37 rfl w.heap.size 3 j0 (.int .i64 0) 1 8 Try.underlying37 INF.out.1 INF.out.2.1 INF.out.2.2.1 INF.out.2.2.2 rfl (by decide) _ _ _ rfl OWN.out ⟨w8.heap.size, 0, none⟩ 1 1 [.int .i64 (j : Int)] rfl rfl HNEW.out (by intro u hu; simp only [List.mem_cons, List.not_mem_nil, or_false] at hu; subst hu; rfl) (by unfold maxLen; omega) (by omega) hbase ?_); intro v' w10 own8 hg8 _; obtain ⟨g', cap', rfl⟩ := ownsRow_succ own8; have N8 := Lib.hid (L2.out.ints OWN.out (Nat.le_refl _) hg8); have O8 := Lib.hid own8; clear own8 hg8)
        go_roundg (n - (j + 1))
        case measure => omega
        case rel => exact ⟨j + 1, j + 1, d3, putB buf (qo, qs), some ⟨g', 0, none⟩, cap', by go_num, by omega, by omega, rfl, Lib.hid (by omega), by rw [upto_succ]; simpa [iV] using O8.out, N8.out, CC2.out⟩
      · obtain ⟨hE, hD, hC2⟩ := CC.out.stop (o := (qo : Int)) (s := qs) (by omega)
        have kMi : ¬ (k : Int) < (M : Int) := by omega
        have kMd : decide ((k : Int) < (M : Int)) = false := decide_eq_false kMi
        have hw := M1.out.l.write (by rw [CC.out.pend]; omega) qo (by omega) (by have := M1.out.l.ok.small; have := M1.out.hn; omega) qs (by have := M1.out.l.ok.small; have := M1.out.hn; omega)
        rw [hE, hD] at hw
        have HW := Lib.hid hw; have CC2 := Lib.hid hC2; have hkm' := Lib.hid hkm
        clear hw hC2 hE hD hkm
        go_upto_region 14 with (go_at_call 21; (with_reducible refine (HW.out).mono ?_); rintro e w7 ⟨rfl, l7, st⟩; have M3 := Lib.hid (M1.out.turn l7 st M1.out.hn); have O3 := Lib.hid (st.ints _ _ _ _ O1.out); clear l7 st)
        clear x0 x1 x2
        go_wp2
        go_roundg (n - (k + 1))
        case measure => omega
        case rel => exact ⟨k + 1, j, d, buf, VA, vc, by go_num, by omega, by omega, rfl, Lib.hid (by have := HJ.out; have := hkm'.out; omega), O3.out, M3.out, CC2.out⟩
    · by_cases hkm : k < M
      · obtain rfl : k = n := by omega
        obtain rfl : j = k := by have := HJ.out; omega
        have hs := hM.l.sync
        have hlo : d.lost = false := by rw [hC.lost]; exact decide_eq_false (by omega)
        rw [show readyE d = 0 by (unfold readyE; rw [hlo]; rfl)] at hs
        have kMi : (j : Int) < (M : Int) := by omega
        have HS := Lib.hid hs
        clear hs hM hC hO hlo hlt
        go_wp2_with (go_at_call 23; (with_reducible refine (HS.out).mono ?_); rintro e w7 ⟨rfl, l7, _⟩; have L7 := Lib.hid l7; clear l7)
        go_ret
        exact ⟨rfl, L7.out.bel⟩
      · obtain rfl : j = M := by have := HJ.out; omega
        have hlo : d.lost = true := by rw [hC.lost]; exact decide_eq_true (by omega)
        have hpl : d.pend.length = j := by rw [hC.pend]; omega
        have hvl : d.vis.length = N := by rw [hM.l.ok.len, hM.hn]
        have rd := hM.l.read 0 0 (by decide) (by decide)
        have eR : readE d 0 0 = 91 := by unfold readE; rw [hlo]; rfl
        have sR : readS d 0 0 = ⟨#[]⟩ := by unfold readS; rw [eR]; rfl
        rw [eR, sR] at rd
        have sy := hM.l.sync
        rw [show readyE d = 91 by (unfold readyE; rw [hlo]; rfl), show syncD d = d by (unfold syncD; rw [hlo]; rfl)] at sy
        have ct : ∀ W : World, Ld w W g a b d → Calls Try.prog 24 #[.pointer (some ⟨g, 0, none⟩), .int .i64 3] W fun e w' => e = .returned (.int .i64 91) ∧ Ld w w' g a b d ∧ Stay W w' a b := fun W hW => by
          have := hW.cut 3 (by decide)
          have e : cutE d 3 = 91 := by unfold cutE; rw [hlo]; rfl
          rw [e, show cutD d 3 = d by (unfold cutD; rw [e]; rfl)] at this
          exact this
        have pn : ∀ W : World, Ld w W g a b d → Calls Try.prog 17 #[.pointer (some ⟨g, 0, none⟩)] W fun e w' => e = .returned (.int .i64 j) ∧ w' = W := fun W hW => by
          have := hW.pending
          rw [hpl] at this
          exact this
        have sz : ∀ W : World, Ld w W g a b d → Calls Try.prog 16 #[.pointer (some ⟨g, 0, none⟩)] W fun e w' => e = .returned (.int .i64 N) ∧ w' = W := fun W hW => by
          have := hW.size
          rw [hM.hn] at this
          exact this
        have hca := crash_all hM.l.ok
        rw [hpl] at hca
        obtain ⟨d9, hd9⟩ : ∃ d9 : Dk, d9 = ⟨d.vis, d.vis, [], false, 0⟩ := ⟨_, rfl⟩
        rw [← hd9] at hca
        have q9 : d9.lost = false ∧ d9.left = 0 ∧ d9.dur.length = N ∧ d9.vis = buf ∧ d9.pend.length ≤ 1000 := by rw [hd9]; exact ⟨rfl, rfl, hvl, hC.v, Nat.zero_le _⟩
        have cr : ∀ (W : World) (o : W.ownsRow w.heap.size 3 1 (.slice VA j vc) j (iV (upto j))), Ld w W g a b d → Calls Try.prog 25 #[.pointer (some ⟨g, 0, none⟩), .slice VA j vc, .int .i64 (-1)] W fun e w' => e = .returned (.int .i64 0) ∧ Ld w w' g a b d9 ∧ Stay W w' a b := fun W o hW => by
          have := hW.crash (by rw [hpl]; omega) VA vc (upto j) (own_nums o) (by rw [upto_len]; omega) (-1)
          rw [upto_len, hca] at this
          exact this
        obtain ⟨w91, w92⟩ := write_ok (d := d9) (p := (0, ⟨#[120]⟩)) q9.1 q9.2.1 (by rw [q9.2.2.1]; exact h1)
        obtain ⟨dx, hdx⟩ : ∃ dx : Dk, dx = { d9 with vis := putB d9.vis (0, ⟨#[120]⟩), pend := d9.pend ++ [(0, ⟨#[120]⟩)] } := ⟨_, rfl⟩
        rw [← hdx] at w92
        have qx : readyE dx = 0 := by rw [hdx]; unfold readyE; rw [q9.1]; rfl
        have rd9 : ∀ W : World, Ld w W g a b d9 → Calls Try.prog 14 #[.pointer (some ⟨g, 0, none⟩), .int .i64 0, .int .i64 N] W fun e w' => e = .returned (.tuple #[.string (strB buf), .int .i64 0]) ∧ w' = W := fun W hW => by
          have hr := hW.read 0 N (by decide) (by decide)
          obtain ⟨r1, r2⟩ := read_all hW.ok q9.1 q9.2.2.1
          rw [r1, r2, q9.2.2.2.1] at hr
          exact hr
        have wr9 : ∀ W : World, Ld w W g a b d9 → Calls Try.prog 21 #[.pointer (some ⟨g, 0, none⟩), .int .i64 0, .string ⟨#[120]⟩] W fun e w' => e = .returned (.int .i64 0) ∧ Ld w w' g a b dx ∧ Stay W w' a b := fun W hW => by
          have := hW.write q9.2.2.2.2 0 (by decide) (by decide) ⟨#[120]⟩ (by decide)
          rw [show writeE d9 0 ⟨#[120]⟩ = 0 from w91, show writeD d9 0 ⟨#[120]⟩ = dx from w92] at this
          exact this
        have sy9 : ∀ W : World, Ld w W g a b dx → Calls Try.prog 23 #[.pointer (some ⟨g, 0, none⟩)] W fun e w' => e = .returned (.int .i64 0) ∧ Ld w w' g a b (syncD dx) ∧ Stay W w' a b := fun W hW => by
          have := hW.sync
          rw [qx] at this
          exact this
        have cv : ∀ W : World, Row W gb 5 (byteCells buf).toArray → (convert 40 9 (.slice (some ⟨gb, 0, none⟩) N N)).run Try.prog W = .ok (.string (strB buf)) W := fun W hr => by
          have hc := conv_bytes (cap := N) hr (o := 0) (k := N) (by rw [hM.hl]; omega) 40 Try.underlying40
          rw [List.drop_zero, List.take_of_length_le (by rw [hM.hl]; exact Nat.le_refl _)] at hc
          exact hc
        have RD := Lib.hid rd; have SY := Lib.hid sy; have CT := Lib.hid ct; have PN := Lib.hid pn; have SZ := Lib.hid sz; have CR := Lib.hid cr; have RD9 := Lib.hid rd9; have WR9 := Lib.hid wr9; have SY9 := Lib.hid sy9; have CV := Lib.hid cv; have OO := Lib.hid hO; have GR := Lib.hid hM.r; have NA := Lib.hid hM.na; have NB := Lib.hid hM.nb
        have cond : (k < n → k = 40) := fun h => by omega
        have hjk := Lib.hid hkm
        obtain ⟨S, hS⟩ : ∃ S, S = strB buf := ⟨_, rfl⟩
        rw [← hS] at RD9 CV
        clear rd sy ct pn sz cr rd9 wr9 sy9 cv hO hM hC hkm hlt hlo hpl hvl eR sR hca hd9 q9 w91 w92 hdx qx hS
        have jj : ¬ (j : Int) < (j : Int) := by omega
        by_cases hkn : k < n
        · obtain rfl := cond hkn
          have h2 : (40 : Int) < (n : Int) := by omega
          clear cond
          go_upto_region 22 with (go_at_call 14; (with_reducible refine (RD.out).mono ?_); rintro e w7 ⟨rfl, rfl⟩)
          go_upto_region 24 with first | (go_at_call 23; (with_reducible refine (SY.out).mono ?_); rintro e w8 ⟨rfl, l8, st⟩; have O8 := Lib.hid (st.ints _ _ _ _ OO.out); have G8 := Lib.hid (st.buf GR.out NA.out NB.out); have L8 := Lib.hid l8; have CT8 := Lib.hid (CT.out _ l8); clear l8 st) | (go_at_call 24; (with_reducible refine (CT8.out).mono ?_); rintro e w9 ⟨rfl, l9, st⟩; have O9 := Lib.hid (st.ints _ _ _ _ O8.out); have G9 := Lib.hid (st.buf G8.out NA.out NB.out); have L9 := Lib.hid l9; have PN9 := Lib.hid (PN.out _ l9); have SZ9 := Lib.hid (SZ.out _ l9); have CR9 := Lib.hid (CR.out _ O9.out l9); clear l9 st) | (go_at_call 17; (with_reducible refine (PN9.out).mono ?_); rintro e w10 ⟨rfl, rfl⟩) | (go_at_call 16; (with_reducible refine (SZ9.out).mono ?_); rintro e w11 ⟨rfl, rfl⟩)
          go_upto_region 25 with (go_at_call 25; (with_reducible refine (CR9.out).mono ?_); rintro e w12 ⟨rfl, l12, st⟩; have G12 := Lib.hid (st.buf G9.out NA.out NB.out); have R12 := Lib.hid (RD9.out _ l12); have W12 := Lib.hid (WR9.out _ l12); clear l12 st)
          go_upto_region 26 with (go_at_call 14; (with_reducible refine (R12.out).mono ?_); rintro e w13 ⟨rfl, rfl⟩)
          have cv12 := CV.out _ G12.out
          go_wp2_with first | (go_at_call 21; (with_reducible refine (W12.out).mono ?_); rintro e w14 ⟨rfl, l14, st⟩; have S14 := Lib.hid (SY9.out _ l14); clear l14 st) | (go_at_call 23; (with_reducible refine (S14.out).mono ?_); rintro e w15 ⟨rfl, l15, st⟩; have L15 := Lib.hid l15; clear l15 st)
          go_ret
          exact ⟨rfl, L15.out.bel⟩
        · obtain rfl : k = n := by omega
          clear cond
          go_upto_region 22 with (go_at_call 14; (with_reducible refine (RD.out).mono ?_); rintro e w7 ⟨rfl, rfl⟩)
          go_upto_region 24 with first | (go_at_call 23; (with_reducible refine (SY.out).mono ?_); rintro e w8 ⟨rfl, l8, st⟩; have O8 := Lib.hid (st.ints _ _ _ _ OO.out); have G8 := Lib.hid (st.buf GR.out NA.out NB.out); have L8 := Lib.hid l8; have CT8 := Lib.hid (CT.out _ l8); clear l8 st) | (go_at_call 24; (with_reducible refine (CT8.out).mono ?_); rintro e w9 ⟨rfl, l9, st⟩; have O9 := Lib.hid (st.ints _ _ _ _ O8.out); have G9 := Lib.hid (st.buf G8.out NA.out NB.out); have L9 := Lib.hid l9; have PN9 := Lib.hid (PN.out _ l9); have SZ9 := Lib.hid (SZ.out _ l9); have CR9 := Lib.hid (CR.out _ O9.out l9); clear l9 st) | (go_at_call 17; (with_reducible refine (PN9.out).mono ?_); rintro e w10 ⟨rfl, rfl⟩) | (go_at_call 16; (with_reducible refine (SZ9.out).mono ?_); rintro e w11 ⟨rfl, rfl⟩)
          go_upto_region 25 with (go_at_call 25; (with_reducible refine (CR9.out).mono ?_); rintro e w12 ⟨rfl, l12, st⟩; have G12 := Lib.hid (st.buf G9.out NA.out NB.out); have R12 := Lib.hid (RD9.out _ l12); have W12 := Lib.hid (WR9.out _ l12); clear l12 st)
          go_upto_region 26 with (go_at_call 14; (with_reducible refine (R12.out).mono ?_); rintro e w13 ⟨rfl, rfl⟩)
          have cv12 := CV.out _ G12.out
          go_wp2_with first | (go_at_call 21; (with_reducible refine (W12.out).mono ?_); rintro e w14 ⟨rfl, l14, st⟩; have S14 := Lib.hid (SY9.out _ l14); clear l14 st) | (go_at_call 23; (with_reducible refine (S14.out).mono ?_); rintro e w15 ⟨rfl, l15, st⟩; have L15 := Lib.hid l15; clear l15 st)
          go_ret
          exact ⟨rfl, L15.out.bel⟩
end Go.Proofs.Ytghcffpcblficaa
