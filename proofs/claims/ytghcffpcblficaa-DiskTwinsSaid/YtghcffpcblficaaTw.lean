/- DiskTwins: three disks kept apart; its walk. -/
import Derived.Test.YtghcffpcblficaaLv
import Derived.Test.YtghcffpcblficaaSn
namespace Go.Proofs.Ytghcffpcblficaa
open Go.RowKit Go.Lib

/-- Rows of writes of the arguments stay. -/
def BoxK (W Y : World) : Prop := ∀ k C, Row W k 53 C → Row Y k 53 C
def Apart (h h' : Dh) : Prop := ∀ k, h.has k → ¬ h'.has k
theorem Apart.symm {h h' : Dh} (a : Apart h h') : Apart h' h := fun k h1 h2 => a k h2 h1
theorem turn_other {W Y : World} {B : Nat} {h h2 : Dh} {d2 : Dk} {pv : Value} (k : Kept h.has W Y) (hp : ∀ k, pv.ownBlock = some k → h.pv.ownBlock = some k ∨ W.heap.size ≤ k) (m2 : DiskM W B h2 d2) (ap : Apart h h2) : DiskM Y B h2 d2 ∧ Apart { h with pv := pv } h2 := by
  refine ⟨m2.kept k (fun i hi hs => ap i hs hi), fun i hi h2i => ?_⟩
  rcases Turned.has (w := W) (w' := Y) (B := B) hp hi with h1 | h1
  · exact ap i h1 h2i
  · have := m2.inside h2i; omega
/-- Three disks. -/
structure T3 (w W : World) (hc hd ha : Dh) (dc dd da : Dk) : Prop where
  c : DiskM W w.heap.size hc dc
  d : DiskM W w.heap.size hd dd
  a : DiskM W w.heap.size ha da
  cd : Apart hc hd
  ca : Apart hc ha
  da : Apart hd ha
  b : Below w.heap.size w W
def Tr (w W : World) (gc gd ga : Nat) (dc dd da : Dk) : Prop := ∃ hc hd ha : Dh, hc.g = gc ∧ hd.g = gd ∧ ha.g = ga ∧ T3 w W hc hd ha dc dd da
theorem box_kept {W Y : World} {B : Nat} {h : Dh} {d : Dk} (m : DiskM W B h d) (k : Kept h.has W Y) : BoxK W Y := fun i C hr => hr.kept k (fun hi => by
  rcases hi with e | e | e | e
  · exact hr.ne m.r (by decide) e
  · exact hr.ne m.a (by decide) e
  · exact hr.ne m.b (by decide) e
  · exact own_ne hr m.p (by decide) e)
section
variable {w W Y : World} {gc gd ga : Nat} {dc dd da d' : Dk} {f : FuncId} {args : Array Value} {v : Value}
theorem Tr.step (T : Tr w W gc gd ga dc dd da) (h : Below W.heap.size W Y) : Tr w Y gc gd ga dc dd da := by
  obtain ⟨hc, hd, ha, e1, e2, e3, t⟩ := T
  exact ⟨hc, hd, ha, e1, e2, e3, t.c.step h, t.d.step h, t.a.step h, t.cd, t.ca, t.da, below_step t.b h⟩
theorem Tr.bel (T : Tr w W gc gd ga dc dd da) : Below w.heap.size w W := by
  obtain ⟨hc, hd, ha, e1, e2, e3, t⟩ := T
  exact t.b
theorem Tr.okc (T : Tr w W gc gd ga dc dd da) : dc.Ok ∧ dd.Ok ∧ da.Ok := by
  obtain ⟨hc, hd, ha, e1, e2, e3, t⟩ := T
  exact ⟨t.c.ok, t.d.ok, t.a.ok⟩
theorem Tr.onC (T : Tr w W gc gd ga dc dd da) (H : ∀ h : Dh, h.g = gc → DiskM W w.heap.size h dc → w.heap.size ≤ W.heap.size → Calls Try.prog f args W fun e w' => e = .returned v ∧ Turned W w' w.heap.size h d') : Calls Try.prog f args W fun e w' => e = .returned v ∧ Tr w w' gc gd ga d' dd da ∧ BoxK W w' := by
  obtain ⟨hc, hd, ha, e1, e2, e3, t⟩ := T
  refine (H hc e1 t.c t.b.size).mono fun e w' ⟨he, pv, m, k, hp⟩ => ⟨he, ?_, box_kept t.c k⟩
  obtain ⟨k1, k2⟩ := turn_other k hp t.d t.cd
  obtain ⟨k3, k4⟩ := turn_other k hp t.a t.ca
  exact ⟨{ hc with pv := pv }, hd, ha, e1, e2, e3, m, k1, k3, k2, k4, t.da, k.below t.b (fun i hi => t.c.from hi) t.b.size⟩
theorem Tr.onD (T : Tr w W gc gd ga dc dd da) (H : ∀ h : Dh, h.g = gd → DiskM W w.heap.size h dd → w.heap.size ≤ W.heap.size → Calls Try.prog f args W fun e w' => e = .returned v ∧ Turned W w' w.heap.size h d') : Calls Try.prog f args W fun e w' => e = .returned v ∧ Tr w w' gc gd ga dc d' da ∧ BoxK W w' := by
  obtain ⟨hc, hd, ha, e1, e2, e3, t⟩ := T
  refine (H hd e2 t.d t.b.size).mono fun e w' ⟨he, pv, m, k, hp⟩ => ⟨he, ?_, box_kept t.d k⟩
  obtain ⟨k1, k2⟩ := turn_other k hp t.c t.cd.symm
  obtain ⟨k3, k4⟩ := turn_other k hp t.a t.da
  exact ⟨hc, { hd with pv := pv }, ha, e1, e2, e3, k1, m, k3, k2.symm, t.ca, k4, k.below t.b (fun i hi => t.d.from hi) t.b.size⟩
theorem Tr.onA (T : Tr w W gc gd ga dc dd da) (H : ∀ h : Dh, h.g = ga → DiskM W w.heap.size h da → w.heap.size ≤ W.heap.size → Calls Try.prog f args W fun e w' => e = .returned v ∧ Turned W w' w.heap.size h d') : Calls Try.prog f args W fun e w' => e = .returned v ∧ Tr w w' gc gd ga dc dd d' ∧ BoxK W w' := by
  obtain ⟨hc, hd, ha, e1, e2, e3, t⟩ := T
  refine (H ha e3 t.a t.b.size).mono fun e w' ⟨he, pv, m, k, hp⟩ => ⟨he, ?_, box_kept t.a k⟩
  obtain ⟨k1, k2⟩ := turn_other k hp t.c t.ca.symm
  obtain ⟨k3, k4⟩ := turn_other k hp t.d t.da.symm
  exact ⟨hc, hd, { ha with pv := pv }, e1, e2, e3, k1, k3, m, t.cd, k2.symm, k4.symm, k.below t.b (fun i hi => t.a.from hi) t.b.size⟩
end
/-- A disk as the law drives it: with power, no cut. -/
structure Sd (N k : Nat) (d : Dk) : Prop where
  n : d.dur.length = N
  lost : d.lost = false
  left : d.left = 0
  pend : d.pend.length ≤ k
def wrD (d : Dk) (q : Nat × ByteArray) : Dk := { d with vis := putB d.vis q, pend := d.pend ++ [q] }
def syD (d : Dk) : Dk := { d with dur := d.vis, pend := [] }
theorem wr_call {N k : Nat} {d : Dk} {q : Nat × ByteArray} (s : Sd N k d) (hk : k ≤ 1000) (hN : N ≤ 1000) (hf : q.1 + q.2.size ≤ N) {W : World} {B g : Nat} : ∀ h : Dh, h.g = g → DiskM W B h d → B ≤ W.heap.size → Calls Try.prog 21 #[.pointer (some ⟨g, 0, none⟩), .int .i64 q.1, .string q.2] W fun e w' => e = .returned (.int .i64 0) ∧ Turned W w' B h (wrD d q) := fun h hg m hB => by
  subst hg
  obtain ⟨hE, hD⟩ := write_ok (p := q) s.lost s.left (by rw [s.n]; exact hf)
  have := write_any m hB (Nat.le_trans s.pend hk) q.1 (by omega) (by omega) q.2 (by omega)
  rw [hE, hD] at this
  exact this
theorem sy_call {N k : Nat} {d : Dk} (s : Sd N k d) {W : World} {B g : Nat} : ∀ h : Dh, h.g = g → DiskM W B h d → B ≤ W.heap.size → Calls Try.prog 23 #[.pointer (some ⟨g, 0, none⟩)] W fun e w' => e = .returned (.int .i64 0) ∧ Turned W w' B h (syD d) := fun h hg m hB => by
  subst hg
  have := sync_any m
  rw [show readyE d = 0 by (unfold readyE; rw [s.lost]; rfl), show syncD d = syD d by (unfold syncD; rw [if_neg (by rw [s.lost]; exact Bool.false_ne_true)]; rfl)] at this
  exact this
theorem cr_call {N k : Nat} {d : Dk} (s : Sd N k d) (hk : k ≤ 1000) {W : World} {B g : Nat} : ∀ h : Dh, h.g = g → DiskM W B h d → B ≤ W.heap.size → Calls Try.prog 25 #[.pointer (some ⟨g, 0, none⟩), .slice none 0 0, .int .i64 1] W fun e w' => e = .returned (.int .i64 0) ∧ Turned W w' B h ⟨d.dur, d.dur, [], false, 0⟩ := fun h hg m hB => by
  subst hg
  have := crash_any m (Nat.le_trans s.pend hk) none 0 [] (.inl rfl) (by decide) 1
  rw [crash_none, List.length_nil] at this
  exact this
theorem Sd.wr {N k : Nat} {d : Dk} {q : Nat × ByteArray} (s : Sd N k d) : Sd N (k + 1) (wrD d q) := ⟨s.n, s.lost, s.left, by show (d.pend ++ [q]).length ≤ _; rw [List.length_append]; exact Nat.succ_le_succ s.pend⟩
theorem Sd.sy {N k : Nat} {d : Dk} (s : Sd N k d) (ho : d.Ok) : Sd N k (syD d) := ⟨by show d.vis.length = N; rw [ho.len, s.n], s.lost, s.left, Nat.zero_le _⟩
theorem Sd.cr {N k : Nat} {d : Dk} (s : Sd N k d) : Sd N k ⟨d.dur, d.dur, [], false, 0⟩ := ⟨s.n, rfl, rfl, Nat.zero_le _⟩
theorem Sd.more {N k k' : Nat} {d : Dk} (s : Sd N k d) (h : k ≤ k') : Sd N k' d := ⟨s.n, s.lost, s.left, Nat.le_trans s.pend h⟩
theorem three_new {w : World} (N : Nat) (h1 : 1 ≤ N) (h2 : N ≤ 4194304) : True := trivial
set_option maxRecDepth 100000 in
set_option maxHeartbeats 16000000 in
theorem tw_walk (size : Int) (s1 : In64 size) (l : List Wp) (A : Option Addr) (cap : Nat) (w : World) (hl : WpsC w A l) (hg : ∀ y ∈ l, GoodW y) (h63 : l.length ≤ 9223372036854775807) :
    Calls Try.prog 11 #[.int .i64 size, .slice A l.length cap] w fun e w' => e = .returned (.bool true) ∧ Below w.heap.size w w' := by
  have SAN := Lib.hid sane_any
  obtain ⟨N, z, he, h1, hM, hz0, hpk⟩ : ∃ (N : Nat) (z : Int), (1 : Int) + z = N ∧ 1 ≤ N ∧ N ≤ 100 ∧ (0 ≤ z ∧ z < 100) ∧ ∀ W : World, Calls Try.prog 15 #[.int .i64 size, .int .i64 100] W fun e w' => e = .returned (.int .i64 z) ∧ w' = W := by
    have hl := pkn_lt (c := size) (n := 100) (by decide)
    exact ⟨pkn size 100 + 1, (pkn size 100 : Int), by omega, by omega, by omega, by omega, fun W => pickn_any size 100 s1.1 s1.2 (by decide) (by decide) W⟩
  have PK := Lib.hid hpk
  have NW := Lib.hid (fun W => new_any N h1 (by omega) W)
  clear hpk s1
  obtain ⟨n, hn⟩ : ∃ n, n = l.length := ⟨_, rfl⟩
  rw [← hn] at h63 ⊢
  have HL := Lib.hid hl; have HG := Lib.hid hg; have HN := Lib.hid hn
  clear hl hg hn
  go_enter Try.func11, Try.ntmps11
  go_upto_region 2 with (go_at_call 12; (with_reducible refine (SAN.out _).mono ?_); rintro e w1 ⟨rfl, bs⟩; have B1 := Lib.hid bs; clear bs)
  go_upto_region 4 with first | (go_at_call 15; (with_reducible refine (PK.out _).mono ?_); rintro e w2 ⟨rfl, rfl⟩) | (go_at_call 13; (refine (NW.out _).mono ?_); rintro e w3 ⟨hc, rfl, mc, b3⟩; have MC := Lib.hid mc; have B3 := Lib.hid b3; clear mc b3)
  go_upto_region 5 with (go_at_call 13; (refine (NW.out _).mono ?_); rintro e w4 ⟨hd, rfl, md, b4⟩; have MD := Lib.hid md; have B4 := Lib.hid b4; clear md b4)
  go_upto_region 6 with (go_at_call 13; (refine (NW.out _).mono ?_); rintro e w5 ⟨ha, rfl, ma, b5⟩; have MA := Lib.hid ma; have B5 := Lib.hid b5; clear ma b5)
  have tr : Tr w w5 hc.g hd.g ha.g (newD N) (newD N) (newD N) := by
    have s1 := B1.out.size
    have s3 := B3.out.size
    have s4 := B4.out.size
    refine ⟨hc, hd, ha, rfl, rfl, rfl, ((MC.out.step B4.out).step B5.out).less s1, (MD.out.step B5.out).less (by omega), MA.out.less (by omega), fun k h1 h2 => ?_, fun k h1 h2 => ?_, fun k h1 h2 => ?_, below_step (below_step (below_step B1.out B3.out) B4.out) B5.out⟩
    · have := MC.out.inside h1; have := MD.out.from h2; omega
    · have := MC.out.inside h1; have := MA.out.from h2; omega
    · have := MD.out.inside h1; have := MA.out.from h2; omega
  generalize hc.g = gc at *
  generalize hd.g = gd at *
  generalize ha.g = ga at *
  have TR := Lib.hid tr
  have S0 : Hid (Sd N 0 (newD N)) := Lib.hid ⟨zeros_len N, rfl, rfl, Nat.le_refl _⟩
  clear tr MC MD MA B3 B4 B5 B1 NW SAN PK he hz0
  go_wp2
  go_loopg [12, 13] n (fun kx s12 s13 wr => ∃ (k : Nat) (dc dd : Dk), s12 = .int .i64 (k : Int) ∧ k + kx = n ∧ k ≤ 30 ∧ Tr w wr gc gd ga dc dd dc ∧ Sd N k dc ∧ Sd N k dd)
  case atStart => exact ⟨0, newD N, newD N, rfl, by omega, by omega, TR.out, S0.out, S0.out⟩
  case round =>
    clear TR S0
    obtain ⟨k, dc, dd, rfl, hk, hk30, hM, sc, sd⟩ := hrel
    by_cases hlt : k < n ∧ k < 30
    · obtain ⟨hlt, hlt2⟩ := hlt
      obtain ⟨p, hpk⟩ : ∃ p, l[k]? = some p := at_lt (by rw [← HN.out]; exact hlt)
      have hgd := HG.out p (List.mem_of_getElem? hpk)
      obtain ⟨bb, o, rfl, e0, e1, e2⟩ := HL.out.at hM.bel hpk
      obtain ⟨po, ps, y⟩ := p
      obtain ⟨⟨g1, g2⟩, g3⟩ := hgd
      dsimp only at e0 e1 e2 g1 g2 g3
      have hft := fun W => fits_any po ps y N g1 g2 g3 (by omega) W
      have hpf := fitP_fit N po ps
      obtain ⟨q, hq⟩ : ∃ q, q = fitP N po ps := ⟨_, rfl⟩
      rw [← hq] at hft hpf
      obtain ⟨qo, qs⟩ := q
      dsimp only at hft hpf
      have FT := Lib.hid hft; have HQ := Lib.hid hq; have HPK := Lib.hid hpk
      have kLi : (k : Int) < (n : Int) := by omega
      have kLj : (k : Int) < 30 := by omega
      clear hft hq hpk
      go_upto_region 12 with (go_at_call 26; (with_reducible refine (FT.out _).mono ?_); rintro e w5 ⟨rfl, b5⟩; have B5 := Lib.hid b5; clear b5)
      obtain ⟨W1, hW1⟩ : ∃ W1, W1 = w5.alloc (.cells #[.int .i64 qo, .string qs, .bool y] 53) := ⟨_, rfl⟩
      rw [← hW1]
      have rb : Row W1 w5.heap.size 53 #[.int .i64 qo, .string qs, .bool y] := by rw [hW1]; exact Row.made _ _ _
      have b6 : Below wr.heap.size wr W1 := by rw [hW1]; exact keep_alloc B5.out _
      obtain ⟨vb, hvb⟩ : ∃ vb, vb = w5.heap.size := ⟨_, rfl⟩
      rw [← hvb] at rb ⊢
      obtain ⟨x0, x1, x2, _, _, _⟩ := rb.three
      have RB := Lib.hid rb; have B6 := Lib.hid b6
      clear hW1 rb b6 e0 e1 e2 B5 FT hvb
      have m1 := hM.step B6.out
      obtain ⟨r2, hr2⟩ : ∃ r : Nat, r = k % 2 := ⟨_, rfl⟩
      have hmod : (k : Int).tmod 2 = (r2 : Int) := by rw [Int.tmod_eq_emod_of_nonneg (by omega)]; omega
      have hr22 : r2 < 2 := by omega
      have M1 := Lib.hid m1; have SC := Lib.hid sc; have SD := Lib.hid sd
      clear m1 hM sc sd hr2
      by_cases hodd : r2 = 1
      · subst hodd
        have hw := M1.out.onD (wr_call (q := (qo, qs)) SD.out (by omega) (by omega) hpf)
        have HW := Lib.hid hw
        obtain ⟨r7, hr7⟩ : ∃ r : Nat, r = qo % 7 := ⟨_, rfl⟩
        have hmod7 : (qo : Int).tmod 7 = (r7 : Int) := by rw [Int.tmod_eq_emod_of_nonneg (by omega)]; omega
        clear hw hr7
        have sdw := SD.out.wr (q := (qo, qs))
        have SDW := Lib.hid sdw
        clear sdw
        cases y with
        | false =>
          by_cases h7 : r7 = 3
          · subst h7
            go_wp2_with first | (go_at_call 21; (with_reducible refine (HW.out).mono ?_); rintro e w7 ⟨rfl, t7, bk⟩; have T7 := Lib.hid t7; have C7 := Lib.hid (t7.onD (cr_call SDW.out (by omega))); have rb := bk _ _ RB.out; clear x0 x1 x2 t7 bk; obtain ⟨x0, x1, x2, _, _, _⟩ := rb.three; clear rb) | (go_at_call 25; (with_reducible refine (C7.out).mono ?_); rintro e w8 ⟨rfl, t8, bk⟩; have T8 := Lib.hid t8; clear t8 bk)
            go_roundg (n - (k + 1))
            case measure => omega
            case rel => exact ⟨k + 1, dc, _, by go_num, by omega, by omega, T8.out, SC.out.more (Nat.le_succ _), SDW.out.cr⟩
          · have h8 : ((r7 : Int) == 3) = false := by simp; omega
            clear h7
            go_wp2_with (go_at_call 21; (with_reducible refine (HW.out).mono ?_); rintro e w7 ⟨rfl, t7, bk⟩; have T7 := Lib.hid t7; have rb := bk _ _ RB.out; clear x0 x1 x2 t7 bk; obtain ⟨x0, x1, x2, _, _, _⟩ := rb.three; clear rb)
            go_roundg (n - (k + 1))
            case measure => omega
            case rel => exact ⟨k + 1, dc, _, by go_num, by omega, by omega, T7.out, SC.out.more (Nat.le_succ _), SDW.out⟩
        | true =>
          by_cases h7 : r7 = 3
          · subst h7
            go_wp2_with first | (go_at_call 21; (with_reducible refine (HW.out).mono ?_); rintro e w7 ⟨rfl, t7, bk⟩; have T7 := Lib.hid t7; have Y7 := Lib.hid (t7.onD (sy_call SDW.out)); have rb := bk _ _ RB.out; have RB7 := Lib.hid rb; clear x0 x1 x2 t7 bk; obtain ⟨x0, x1, x2, _, _, _⟩ := rb.three; clear rb) | (go_at_call 23; (with_reducible refine (Y7.out).mono ?_); rintro e w8 ⟨rfl, t8, bk⟩; have T8 := Lib.hid t8; have SDY := Lib.hid (SDW.out.sy T7.out.okc.2.1); have C8 := Lib.hid (t8.onD (cr_call SDY.out (by omega))); have rb := bk _ _ RB7.out; clear x0 x1 x2 t8 bk; obtain ⟨x0, x1, x2, _, _, _⟩ := rb.three; clear rb) | (go_at_call 25; (with_reducible refine (C8.out).mono ?_); rintro e w9 ⟨rfl, t9, bk⟩; have T9 := Lib.hid t9; clear t9 bk)
            go_roundg (n - (k + 1))
            case measure => omega
            case rel => exact ⟨k + 1, dc, _, by go_num, by omega, by omega, T9.out, SC.out.more (Nat.le_succ _), SDY.out.cr⟩
          · have h8 : ((r7 : Int) == 3) = false := by simp; omega
            clear h7
            go_wp2_with first | (go_at_call 21; (with_reducible refine (HW.out).mono ?_); rintro e w7 ⟨rfl, t7, bk⟩; have T7 := Lib.hid t7; have Y7 := Lib.hid (t7.onD (sy_call SDW.out)); have rb := bk _ _ RB.out; have RB7 := Lib.hid rb; clear x0 x1 x2 t7 bk; obtain ⟨x0, x1, x2, _, _, _⟩ := rb.three; clear rb) | (go_at_call 23; (with_reducible refine (Y7.out).mono ?_); rintro e w8 ⟨rfl, t8, bk⟩; have T8 := Lib.hid t8; have SDY := Lib.hid (SDW.out.sy T7.out.okc.2.1); have rb := bk _ _ RB7.out; clear x0 x1 x2 t8 bk; obtain ⟨x0, x1, x2, _, _, _⟩ := rb.three; clear rb)
            go_roundg (n - (k + 1))
            case measure => omega
            case rel => exact ⟨k + 1, dc, _, by go_num, by omega, by omega, T8.out, SC.out.more (Nat.le_succ _), SDY.out⟩
      · obtain rfl : r2 = 0 := by omega
        have SCW := Lib.hid (SC.out.wr (q := (qo, qs)))
        have sx : W1.cell? ⟨vb, 0, none⟩ = some (.int .i64 qo) ∧ W1.cell? ⟨vb, 1, none⟩ = some (.string qs) ∧ W1.cell? ⟨vb, 2, none⟩ = some (.bool y) := ⟨x0, x1, x2⟩
        have M1d : Hid (Tr w W1.drew gc gd ga dc dd dc) := Lib.hid (M1.out.step (Below.refl _ W1).drew)
        have RBd : Hid (Row W1.drew vb 53 #[.int .i64 qo, .string qs, .bool y]) := Lib.hid RB.out.drawn
        have hwc := Lib.hid (M1d.out.onC (wr_call (q := (qo, qs)) SC.out (by omega) (by omega) hpf))
        have hwa := Lib.hid (M1d.out.onA (wr_call (q := (qo, qs)) SC.out (by omega) (by omega) hpf))
        clear hodd x0 x1 x2
        cases y with
        | false =>
          go_upto_region 15 with (fail)
          refine wp_region_held_drew (S := (fun X : World => X.cell? ⟨vb, 0, none⟩ = some (.int .i64 qo) ∧ X.cell? ⟨vb, 1, none⟩ = some (.string qs) ∧ X.cell? ⟨vb, 2, none⟩ = some (.bool false))) (by kernel_rfl) ?_ (fun hHeld => ?_)
          · first | assumption | exact sx
          refine wpAnyH_take (i := 0) (oi := ⟨_, _, _, _, _, _⟩) (v := ?_) rfl (by kernel_rfl) (by kernel_rfl) (by kernel_rfl) (fun _ _ _ h => h) (Or.inl ⟨by rfl, ?_⟩) (by assumption) ?_
          rotate_left 1
          focus (intro w hSw; (try dsimp only at hSw); go_simp; (try with_reducible rfl))
          (try simp only [Act.put, List.setIfInBounds_toArray, List.set_cons_zero, List.set_cons_succ])
          refine wpAnyH_take (i := 1) (oi := ⟨_, _, _, _, _, _⟩) (v := ?_) rfl (by kernel_rfl) (by kernel_rfl) (by kernel_rfl) (fun _ _ _ h => h) (Or.inl ⟨by rfl, ?_⟩) (by assumption) ?_
          rotate_left 1
          focus (intro w hSw; (try dsimp only at hSw); go_simp; (try with_reducible rfl))
          (try simp only [Act.put, List.setIfInBounds_toArray, List.set_cons_zero, List.set_cons_succ])
          refine wpAnyH_take (i := 2) (oi := ⟨_, _, _, _, _, _⟩) (v := ?_) rfl (by kernel_rfl) (by kernel_rfl) (by kernel_rfl) (fun _ _ _ h => h) (Or.inl ⟨by rfl, ?_⟩) (by assumption) ?_
          rotate_left 1
          focus (intro w hSw; (try dsimp only at hSw); go_simp; (try with_reducible rfl))
          (try simp only [Act.put, List.setIfInBounds_toArray, List.set_cons_zero, List.set_cons_succ])
          refine wpAnyH_take (i := 3) (oi := ⟨_, _, _, _, _, _⟩) (v := ?_) rfl (by kernel_rfl) (by kernel_rfl) (by kernel_rfl) (fun _ _ _ h => h) (Or.inl ⟨by rfl, ?_⟩) (by assumption) ?_
          rotate_left 1
          focus (intro w hSw; (try dsimp only at hSw); go_simp; (try with_reducible rfl))
          (try simp only [Act.put, List.setIfInBounds_toArray, List.set_cons_zero, List.set_cons_succ])
          refine wpAnyH_take (i := 4) (oi := ⟨_, _, _, _, _, _⟩) (v := ?_) rfl (by kernel_rfl) (by kernel_rfl) (by kernel_rfl) (fun _ _ _ h => h) (Or.inl ⟨by rfl, ?_⟩) (by assumption) ?_
          rotate_left 1
          focus (intro w hSw; (try dsimp only at hSw); go_simp; (try with_reducible rfl))
          (try simp only [Act.put, List.setIfInBounds_toArray, List.set_cons_zero, List.set_cons_succ])
          refine wpAnyH_take (i := 6) (oi := ⟨_, _, _, _, _, _⟩) (v := ?_) rfl (by kernel_rfl) (by kernel_rfl) (by kernel_rfl) (fun _ _ _ h => h) (Or.inl ⟨by rfl, ?_⟩) (by assumption) ?_
          rotate_left 1
          focus (intro w hSw; (try dsimp only at hSw); go_simp; (try with_reducible rfl))
          (try simp only [Act.put, List.setIfInBounds_toArray, List.set_cons_zero, List.set_cons_succ])
          refine wpAnyH_take (i := 7) (oi := ⟨_, _, _, _, _, _⟩) (v := ?_) rfl (by kernel_rfl) (by kernel_rfl) (by kernel_rfl) (fun _ _ _ h => h) (Or.inl ⟨by rfl, ?_⟩) (by assumption) ?_
          rotate_left 1
          focus (intro w hSw; (try dsimp only at hSw); go_simp; (try with_reducible rfl))
          (try simp only [Act.put, List.setIfInBounds_toArray, List.set_cons_zero, List.set_cons_succ])
          refine wpAnyH_take (i := 8) (oi := ⟨_, _, _, _, _, _⟩) (v := ?_) rfl (by kernel_rfl) (by kernel_rfl) (by kernel_rfl) (fun _ _ _ h => h) (Or.inl ⟨by rfl, ?_⟩) (by assumption) ?_
          rotate_left 1
          focus (intro w hSw; (try dsimp only at hSw); go_simp; (try with_reducible rfl))
          (try simp only [Act.put, List.setIfInBounds_toArray, List.set_cons_zero, List.set_cons_succ])
          refine wpAnyH_take (i := 9) (oi := ⟨_, _, _, _, _, _⟩) (v := ?_) rfl (by kernel_rfl) (by kernel_rfl) (by kernel_rfl) (fun _ _ _ h => h) (Or.inl ⟨by rfl, ?_⟩) (by assumption) ?_
          rotate_left 1
          focus (intro w hSw; (try dsimp only at hSw); go_simp; (try with_reducible rfl))
          (try simp only [Act.put, List.setIfInBounds_toArray, List.set_cons_zero, List.set_cons_succ])
          refine wpAnyH_take (i := 10) (oi := ⟨_, _, _, _, _, _⟩) (v := ?_) rfl (by kernel_rfl) (by kernel_rfl) (by kernel_rfl) (fun _ _ _ h => h) (Or.inl ⟨by rfl, ?_⟩) (by assumption) ?_
          rotate_left 1
          focus (intro w hSw; (try dsimp only at hSw); go_simp; (try with_reducible rfl))
          (try simp only [Act.put, List.setIfInBounds_toArray, List.set_cons_zero, List.set_cons_succ])
          refine wpAnyH_ready (rs := [5]) (by kernel_rfl) (by simp) ?_
          refine AllReadyH.cons (o := ⟨_, _, _, _, _, _⟩) rfl (fun K hK => ?_) ?_
          · go_simp
            (with_reducible refine (hwc.out).mono ?_)
            rintro e w7 ⟨rfl, t7, bk⟩
            have rb7 := bk _ _ RBd.out
            have sx7 : w7.cell? ⟨vb, 0, none⟩ = some (.int .i64 qo) ∧ w7.cell? ⟨vb, 1, none⟩ = some (.string qs) ∧ w7.cell? ⟨vb, 2, none⟩ = some (.bool false) := ⟨rb7.at rfl, rb7.at rfl, rb7.at rfl⟩
            have hwa2 := Lib.hid (t7.onA (wr_call (q := (qo, qs)) SC.out (by omega) (by omega) hpf))
            clear t7
            have RB7 := Lib.hid rb7
            clear bk rb7
            refine hK.out _ _ ?_ (fun hHeld => ?_)
            · first | assumption | exact sx
            clear hK K
            (try simp only [Act.put, List.setIfInBounds_toArray, List.set_cons_zero, List.set_cons_succ])
            refine wpAnyH_ready (rs := [11]) (by kernel_rfl) (by simp) ?_
            refine AllReadyH.cons (o := ⟨_, _, _, _, _, _⟩) rfl (fun K hK => ?_) ?_
            · go_simp
              (with_reducible refine (hwa2.out).mono ?_)
              rintro e w8 ⟨rfl, t8, bk⟩
              have rb8 := bk _ _ RB7.out
              have sx8 : w8.cell? ⟨vb, 0, none⟩ = some (.int .i64 qo) ∧ w8.cell? ⟨vb, 1, none⟩ = some (.string qs) ∧ w8.cell? ⟨vb, 2, none⟩ = some (.bool false) := ⟨rb8.at rfl, rb8.at rfl, rb8.at rfl⟩
              have T8 := Lib.hid t8
              clear t8
              have RB8 := Lib.hid rb8
              clear bk rb8
              refine hK.out _ _ ?_ (fun hHeld => ?_)
              · first | assumption | exact sx
              clear hK K
              (try simp only [Act.put, List.setIfInBounds_toArray, List.set_cons_zero, List.set_cons_succ])
              refine wpAnyH_take (i := 12) (oi := ⟨_, _, _, _, _, _⟩) (v := ?_) rfl (by kernel_rfl) (by kernel_rfl) (by kernel_rfl) (fun _ _ _ h => h) (Or.inl ⟨by rfl, ?_⟩) (by assumption) ?_
              rotate_left 1
              focus (intro w hSw; (try dsimp only at hSw); go_simp; (try with_reducible rfl))
              (try simp only [Act.put, List.setIfInBounds_toArray, List.set_cons_zero, List.set_cons_succ])
              refine wpAnyH_take (i := 13) (oi := ⟨_, _, _, _, _, _⟩) (v := ?_) rfl (by kernel_rfl) (by kernel_rfl) (by kernel_rfl) (fun _ _ _ h => h) (Or.inl ⟨by rfl, ?_⟩) (by assumption) ?_
              rotate_left 1
              focus (intro w hSw; (try dsimp only at hSw); go_simp; (try with_reducible rfl))
              (try simp only [Act.put, List.setIfInBounds_toArray, List.set_cons_zero, List.set_cons_succ])
              refine wpAnyH_take (i := 14) (oi := ⟨_, _, _, _, _, _⟩) (v := ?_) rfl (by kernel_rfl) (by kernel_rfl) (by kernel_rfl) (fun _ _ _ h => h) (Or.inl ⟨by rfl, ?_⟩) (by assumption) ?_
              rotate_left 1
              focus (intro w hSw; (try dsimp only at hSw); go_simp; (try with_reducible rfl))
              (try simp only [Act.put, List.setIfInBounds_toArray, List.set_cons_zero, List.set_cons_succ])
              refine wpAnyH_take (i := 15) (oi := ⟨_, _, _, _, _, _⟩) (v := ?_) rfl (by kernel_rfl) (by kernel_rfl) (by kernel_rfl) (fun _ _ _ h => h) (Or.inl ⟨by rfl, ?_⟩) (by assumption) ?_
              rotate_left 1
              focus (intro w hSw; (try dsimp only at hSw); go_simp; (try with_reducible rfl))
              (try simp only [Act.put, List.setIfInBounds_toArray, List.set_cons_zero, List.set_cons_succ])
              refine wpAnyH_take (i := 16) (oi := ⟨_, _, _, _, _, _⟩) (v := ?_) rfl (by kernel_rfl) (by kernel_rfl) (by kernel_rfl) (fun _ _ _ h => h) (Or.inl ⟨by rfl, ?_⟩) (by assumption) ?_
              rotate_left 1
              focus (intro w hSw; (try dsimp only at hSw); go_simp; (try with_reducible rfl))
              (try simp only [Act.put, List.setIfInBounds_toArray, List.set_cons_zero, List.set_cons_succ])
              refine wpAnyH_take (i := 17) (oi := ⟨_, _, _, _, _, _⟩) (v := undef) rfl (by kernel_rfl) (by kernel_rfl) (by kernel_rfl) (fun _ _ _ h => h) (Or.inr ⟨by rfl, rfl⟩) (by assumption) ?_
              (try simp only [Act.put, List.setIfInBounds_toArray, List.set_cons_zero, List.set_cons_succ])
              refine wpAnyH_take (i := 18) (oi := ⟨_, _, _, _, _, _⟩) (v := undef) rfl (by kernel_rfl) (by kernel_rfl) (by kernel_rfl) (fun _ _ _ h => h) (Or.inr ⟨by rfl, rfl⟩) (by assumption) ?_
              (try simp only [Act.put, List.setIfInBounds_toArray, List.set_cons_zero, List.set_cons_succ])
              refine wpAnyH_take (i := 19) (oi := ⟨_, _, _, _, _, _⟩) (v := undef) rfl (by kernel_rfl) (by kernel_rfl) (by kernel_rfl) (fun _ _ _ h => h) (Or.inr ⟨by rfl, rfl⟩) (by assumption) ?_
              (try simp only [Act.put, List.setIfInBounds_toArray, List.set_cons_zero, List.set_cons_succ])
              refine wpAnyH_take (i := 20) (oi := ⟨_, _, _, _, _, _⟩) (v := undef) rfl (by kernel_rfl) (by kernel_rfl) (by kernel_rfl) (fun _ _ _ h => h) (Or.inr ⟨by rfl, rfl⟩) (by assumption) ?_
              (try simp only [Act.put, List.setIfInBounds_toArray, List.set_cons_zero, List.set_cons_succ])
              refine wpAnyH_take (i := 21) (oi := ⟨_, _, _, _, _, _⟩) (v := undef) rfl (by kernel_rfl) (by kernel_rfl) (by kernel_rfl) (fun _ _ _ h => h) (Or.inr ⟨by rfl, rfl⟩) (by assumption) ?_
              (try simp only [Act.put, List.setIfInBounds_toArray, List.set_cons_zero, List.set_cons_succ])
              refine wpAnyH_take (i := 22) (oi := ⟨_, _, _, _, _, _⟩) (v := ?_) rfl (by kernel_rfl) (by kernel_rfl) (by kernel_rfl) (fun _ _ _ h => h) (Or.inl ⟨by rfl, ?_⟩) (by assumption) ?_
              rotate_left 1
              focus (intro w hSw; (try dsimp only at hSw); go_simp; (try with_reducible rfl))
              (try simp only [Act.put, List.setIfInBounds_toArray, List.set_cons_zero, List.set_cons_succ])
              refine wpAnyH_take (i := 23) (oi := ⟨_, _, _, _, _, _⟩) (v := ?_) rfl (by kernel_rfl) (by kernel_rfl) (by kernel_rfl) (fun _ _ _ h => h) (Or.inl ⟨by rfl, ?_⟩) (by assumption) ?_
              rotate_left 1
              focus (intro w hSw; (try dsimp only at hSw); go_simp; (try with_reducible rfl))
              (try simp only [Act.put, List.setIfInBounds_toArray, List.set_cons_zero, List.set_cons_succ])
              refine wpAnyH_done (by kernel_rfl) ?_ _
              go_wp2
              go_roundg (n - (k + 1))
              case measure => omega
              case rel => exact ⟨k + 1, _, dd, by go_num, by omega, by omega, T8.out, SCW.out, SD.out.more (Nat.le_succ _)⟩
            exact AllReadyH.nil
          exact AllReadyH.nil
        | true =>
          go_upto_region 15 with (fail)
          refine wp_region_held_drew (S := (fun X : World => X.cell? ⟨vb, 0, none⟩ = some (.int .i64 qo) ∧ X.cell? ⟨vb, 1, none⟩ = some (.string qs) ∧ X.cell? ⟨vb, 2, none⟩ = some (.bool true))) (by kernel_rfl) ?_ (fun hHeld => ?_)
          · first | assumption | exact sx
          refine wpAnyH_take (i := 0) (oi := ⟨_, _, _, _, _, _⟩) (v := ?_) rfl (by kernel_rfl) (by kernel_rfl) (by kernel_rfl) (fun _ _ _ h => h) (Or.inl ⟨by rfl, ?_⟩) (by assumption) ?_
          rotate_left 1
          focus (intro w hSw; (try dsimp only at hSw); go_simp; (try with_reducible rfl))
          (try simp only [Act.put, List.setIfInBounds_toArray, List.set_cons_zero, List.set_cons_succ])
          refine wpAnyH_take (i := 1) (oi := ⟨_, _, _, _, _, _⟩) (v := ?_) rfl (by kernel_rfl) (by kernel_rfl) (by kernel_rfl) (fun _ _ _ h => h) (Or.inl ⟨by rfl, ?_⟩) (by assumption) ?_
          rotate_left 1
          focus (intro w hSw; (try dsimp only at hSw); go_simp; (try with_reducible rfl))
          (try simp only [Act.put, List.setIfInBounds_toArray, List.set_cons_zero, List.set_cons_succ])
          refine wpAnyH_take (i := 2) (oi := ⟨_, _, _, _, _, _⟩) (v := ?_) rfl (by kernel_rfl) (by kernel_rfl) (by kernel_rfl) (fun _ _ _ h => h) (Or.inl ⟨by rfl, ?_⟩) (by assumption) ?_
          rotate_left 1
          focus (intro w hSw; (try dsimp only at hSw); go_simp; (try with_reducible rfl))
          (try simp only [Act.put, List.setIfInBounds_toArray, List.set_cons_zero, List.set_cons_succ])
          refine wpAnyH_take (i := 3) (oi := ⟨_, _, _, _, _, _⟩) (v := ?_) rfl (by kernel_rfl) (by kernel_rfl) (by kernel_rfl) (fun _ _ _ h => h) (Or.inl ⟨by rfl, ?_⟩) (by assumption) ?_
          rotate_left 1
          focus (intro w hSw; (try dsimp only at hSw); go_simp; (try with_reducible rfl))
          (try simp only [Act.put, List.setIfInBounds_toArray, List.set_cons_zero, List.set_cons_succ])
          refine wpAnyH_take (i := 4) (oi := ⟨_, _, _, _, _, _⟩) (v := ?_) rfl (by kernel_rfl) (by kernel_rfl) (by kernel_rfl) (fun _ _ _ h => h) (Or.inl ⟨by rfl, ?_⟩) (by assumption) ?_
          rotate_left 1
          focus (intro w hSw; (try dsimp only at hSw); go_simp; (try with_reducible rfl))
          (try simp only [Act.put, List.setIfInBounds_toArray, List.set_cons_zero, List.set_cons_succ])
          refine wpAnyH_take (i := 6) (oi := ⟨_, _, _, _, _, _⟩) (v := ?_) rfl (by kernel_rfl) (by kernel_rfl) (by kernel_rfl) (fun _ _ _ h => h) (Or.inl ⟨by rfl, ?_⟩) (by assumption) ?_
          rotate_left 1
          focus (intro w hSw; (try dsimp only at hSw); go_simp; (try with_reducible rfl))
          (try simp only [Act.put, List.setIfInBounds_toArray, List.set_cons_zero, List.set_cons_succ])
          refine wpAnyH_take (i := 7) (oi := ⟨_, _, _, _, _, _⟩) (v := ?_) rfl (by kernel_rfl) (by kernel_rfl) (by kernel_rfl) (fun _ _ _ h => h) (Or.inl ⟨by rfl, ?_⟩) (by assumption) ?_
          rotate_left 1
          focus (intro w hSw; (try dsimp only at hSw); go_simp; (try with_reducible rfl))
          (try simp only [Act.put, List.setIfInBounds_toArray, List.set_cons_zero, List.set_cons_succ])
          refine wpAnyH_take (i := 8) (oi := ⟨_, _, _, _, _, _⟩) (v := ?_) rfl (by kernel_rfl) (by kernel_rfl) (by kernel_rfl) (fun _ _ _ h => h) (Or.inl ⟨by rfl, ?_⟩) (by assumption) ?_
          rotate_left 1
          focus (intro w hSw; (try dsimp only at hSw); go_simp; (try with_reducible rfl))
          (try simp only [Act.put, List.setIfInBounds_toArray, List.set_cons_zero, List.set_cons_succ])
          refine wpAnyH_take (i := 9) (oi := ⟨_, _, _, _, _, _⟩) (v := ?_) rfl (by kernel_rfl) (by kernel_rfl) (by kernel_rfl) (fun _ _ _ h => h) (Or.inl ⟨by rfl, ?_⟩) (by assumption) ?_
          rotate_left 1
          focus (intro w hSw; (try dsimp only at hSw); go_simp; (try with_reducible rfl))
          (try simp only [Act.put, List.setIfInBounds_toArray, List.set_cons_zero, List.set_cons_succ])
          refine wpAnyH_take (i := 10) (oi := ⟨_, _, _, _, _, _⟩) (v := ?_) rfl (by kernel_rfl) (by kernel_rfl) (by kernel_rfl) (fun _ _ _ h => h) (Or.inl ⟨by rfl, ?_⟩) (by assumption) ?_
          rotate_left 1
          focus (intro w hSw; (try dsimp only at hSw); go_simp; (try with_reducible rfl))
          (try simp only [Act.put, List.setIfInBounds_toArray, List.set_cons_zero, List.set_cons_succ])
          refine wpAnyH_ready (rs := [5]) (by kernel_rfl) (by simp) ?_
          refine AllReadyH.cons (o := ⟨_, _, _, _, _, _⟩) rfl (fun K hK => ?_) ?_
          · go_simp
            (with_reducible refine (hwc.out).mono ?_)
            rintro e w7 ⟨rfl, t7, bk⟩
            have rb7 := bk _ _ RBd.out
            have sx7 : w7.cell? ⟨vb, 0, none⟩ = some (.int .i64 qo) ∧ w7.cell? ⟨vb, 1, none⟩ = some (.string qs) ∧ w7.cell? ⟨vb, 2, none⟩ = some (.bool true) := ⟨rb7.at rfl, rb7.at rfl, rb7.at rfl⟩
            have hwa2 := Lib.hid (t7.onA (wr_call (q := (qo, qs)) SC.out (by omega) (by omega) hpf))
            clear t7
            have RB7 := Lib.hid rb7
            clear bk rb7
            refine hK.out _ _ ?_ (fun hHeld => ?_)
            · first | assumption | exact sx
            clear hK K
            (try simp only [Act.put, List.setIfInBounds_toArray, List.set_cons_zero, List.set_cons_succ])
            refine wpAnyH_ready (rs := [11]) (by kernel_rfl) (by simp) ?_
            refine AllReadyH.cons (o := ⟨_, _, _, _, _, _⟩) rfl (fun K hK => ?_) ?_
            · go_simp
              (with_reducible refine (hwa2.out).mono ?_)
              rintro e w8 ⟨rfl, t8, bk⟩
              have rb8 := bk _ _ RB7.out
              have sx8 : w8.cell? ⟨vb, 0, none⟩ = some (.int .i64 qo) ∧ w8.cell? ⟨vb, 1, none⟩ = some (.string qs) ∧ w8.cell? ⟨vb, 2, none⟩ = some (.bool true) := ⟨rb8.at rfl, rb8.at rfl, rb8.at rfl⟩
              have OK8 := Lib.hid t8.okc.1
              have hsc := Lib.hid (t8.onC (sy_call SCW.out))
              clear t8
              have RB8 := Lib.hid rb8
              clear bk rb8
              refine hK.out _ _ ?_ (fun hHeld => ?_)
              · first | assumption | exact sx
              clear hK K
              (try simp only [Act.put, List.setIfInBounds_toArray, List.set_cons_zero, List.set_cons_succ])
              refine wpAnyH_take (i := 12) (oi := ⟨_, _, _, _, _, _⟩) (v := ?_) rfl (by kernel_rfl) (by kernel_rfl) (by kernel_rfl) (fun _ _ _ h => h) (Or.inl ⟨by rfl, ?_⟩) (by assumption) ?_
              rotate_left 1
              focus (intro w hSw; (try dsimp only at hSw); go_simp; (try with_reducible rfl))
              (try simp only [Act.put, List.setIfInBounds_toArray, List.set_cons_zero, List.set_cons_succ])
              refine wpAnyH_take (i := 13) (oi := ⟨_, _, _, _, _, _⟩) (v := ?_) rfl (by kernel_rfl) (by kernel_rfl) (by kernel_rfl) (fun _ _ _ h => h) (Or.inl ⟨by rfl, ?_⟩) (by assumption) ?_
              rotate_left 1
              focus (intro w hSw; (try dsimp only at hSw); go_simp; (try with_reducible rfl))
              (try simp only [Act.put, List.setIfInBounds_toArray, List.set_cons_zero, List.set_cons_succ])
              refine wpAnyH_take (i := 14) (oi := ⟨_, _, _, _, _, _⟩) (v := ?_) rfl (by kernel_rfl) (by kernel_rfl) (by kernel_rfl) (fun _ _ _ h => h) (Or.inl ⟨by rfl, ?_⟩) (by assumption) ?_
              rotate_left 1
              focus (intro w hSw; (try dsimp only at hSw); go_simp; (try with_reducible rfl))
              (try simp only [Act.put, List.setIfInBounds_toArray, List.set_cons_zero, List.set_cons_succ])
              refine wpAnyH_take (i := 15) (oi := ⟨_, _, _, _, _, _⟩) (v := ?_) rfl (by kernel_rfl) (by kernel_rfl) (by kernel_rfl) (fun _ _ _ h => h) (Or.inl ⟨by rfl, ?_⟩) (by assumption) ?_
              rotate_left 1
              focus (intro w hSw; (try dsimp only at hSw); go_simp; (try with_reducible rfl))
              (try simp only [Act.put, List.setIfInBounds_toArray, List.set_cons_zero, List.set_cons_succ])
              refine wpAnyH_take (i := 16) (oi := ⟨_, _, _, _, _, _⟩) (v := ?_) rfl (by kernel_rfl) (by kernel_rfl) (by kernel_rfl) (fun _ _ _ h => h) (Or.inl ⟨by rfl, ?_⟩) (by assumption) ?_
              rotate_left 1
              focus (intro w hSw; (try dsimp only at hSw); go_simp; (try with_reducible rfl))
              (try simp only [Act.put, List.setIfInBounds_toArray, List.set_cons_zero, List.set_cons_succ])
              refine wpAnyH_take (i := 17) (oi := ⟨_, _, _, _, _, _⟩) (v := ?_) rfl (by kernel_rfl) (by kernel_rfl) (by kernel_rfl) (fun _ _ _ h => h) (Or.inl ⟨by rfl, ?_⟩) (by assumption) ?_
              rotate_left 1
              focus (intro w hSw; (try dsimp only at hSw); go_simp; (try with_reducible rfl))
              (try simp only [Act.put, List.setIfInBounds_toArray, List.set_cons_zero, List.set_cons_succ])
              refine wpAnyH_take (i := 19) (oi := ⟨_, _, _, _, _, _⟩) (v := ?_) rfl (by kernel_rfl) (by kernel_rfl) (by kernel_rfl) (fun _ _ _ h => h) (Or.inl ⟨by rfl, ?_⟩) (by assumption) ?_
              rotate_left 1
              focus (intro w hSw; (try dsimp only at hSw); go_simp; (try with_reducible rfl))
              (try simp only [Act.put, List.setIfInBounds_toArray, List.set_cons_zero, List.set_cons_succ])
              refine wpAnyH_ready (rs := [18]) (by kernel_rfl) (by simp) ?_
              refine AllReadyH.cons (o := ⟨_, _, _, _, _, _⟩) rfl (fun K hK => ?_) ?_
              · go_simp
                (with_reducible refine (hsc.out).mono ?_)
                rintro e w9 ⟨rfl, t9, bk⟩
                have rb9 := bk _ _ RB8.out
                have sx9 : w9.cell? ⟨vb, 0, none⟩ = some (.int .i64 qo) ∧ w9.cell? ⟨vb, 1, none⟩ = some (.string qs) ∧ w9.cell? ⟨vb, 2, none⟩ = some (.bool true) := ⟨rb9.at rfl, rb9.at rfl, rb9.at rfl⟩
                have hsa := Lib.hid (t9.onA (sy_call SCW.out))
                clear t9
                have RB9 := Lib.hid rb9
                clear bk rb9
                refine hK.out _ _ ?_ (fun hHeld => ?_)
                · first | assumption | exact sx
                clear hK K
                (try simp only [Act.put, List.setIfInBounds_toArray, List.set_cons_zero, List.set_cons_succ])
                refine wpAnyH_ready (rs := [20]) (by kernel_rfl) (by simp) ?_
                refine AllReadyH.cons (o := ⟨_, _, _, _, _, _⟩) rfl (fun K hK => ?_) ?_
                · go_simp
                  (with_reducible refine (hsa.out).mono ?_)
                  rintro e w10 ⟨rfl, t10, bk⟩
                  have rb10 := bk _ _ RB9.out
                  have sx10 : w10.cell? ⟨vb, 0, none⟩ = some (.int .i64 qo) ∧ w10.cell? ⟨vb, 1, none⟩ = some (.string qs) ∧ w10.cell? ⟨vb, 2, none⟩ = some (.bool true) := ⟨rb10.at rfl, rb10.at rfl, rb10.at rfl⟩
                  have T10 := Lib.hid t10
                  clear t10
                  have RB10 := Lib.hid rb10
                  clear bk rb10
                  refine hK.out _ _ ?_ (fun hHeld => ?_)
                  · first | assumption | exact sx
                  clear hK K
                  (try simp only [Act.put, List.setIfInBounds_toArray, List.set_cons_zero, List.set_cons_succ])
                  refine wpAnyH_take (i := 21) (oi := ⟨_, _, _, _, _, _⟩) (v := ?_) rfl (by kernel_rfl) (by kernel_rfl) (by kernel_rfl) (fun _ _ _ h => h) (Or.inl ⟨by rfl, ?_⟩) (by assumption) ?_
                  rotate_left 1
                  focus (intro w hSw; (try dsimp only at hSw); go_simp; (try with_reducible rfl))
                  (try simp only [Act.put, List.setIfInBounds_toArray, List.set_cons_zero, List.set_cons_succ])
                  refine wpAnyH_take (i := 22) (oi := ⟨_, _, _, _, _, _⟩) (v := ?_) rfl (by kernel_rfl) (by kernel_rfl) (by kernel_rfl) (fun _ _ _ h => h) (Or.inl ⟨by rfl, ?_⟩) (by assumption) ?_
                  rotate_left 1
                  focus (intro w hSw; (try dsimp only at hSw); go_simp; (try with_reducible rfl))
                  (try simp only [Act.put, List.setIfInBounds_toArray, List.set_cons_zero, List.set_cons_succ])
                  refine wpAnyH_take (i := 23) (oi := ⟨_, _, _, _, _, _⟩) (v := ?_) rfl (by kernel_rfl) (by kernel_rfl) (by kernel_rfl) (fun _ _ _ h => h) (Or.inl ⟨by rfl, ?_⟩) (by assumption) ?_
                  rotate_left 1
                  focus (intro w hSw; (try dsimp only at hSw); go_simp; (try with_reducible rfl))
                  (try simp only [Act.put, List.setIfInBounds_toArray, List.set_cons_zero, List.set_cons_succ])
                  refine wpAnyH_done (by kernel_rfl) ?_ _
                  go_wp2
                  go_roundg (n - (k + 1))
                  case measure => omega
                  case rel => exact ⟨k + 1, _, dd, by go_num, by omega, by omega, T10.out, SCW.out.sy OK8.out, SD.out.more (Nat.le_succ _)⟩
                exact AllReadyH.nil
              exact AllReadyH.nil
            exact AllReadyH.nil
          exact AllReadyH.nil
    · have cond : (k < n → k = 30) := fun h => by omega
      have rd : ∀ W : World, Tr w W gc gd ga dc dd dc → (Calls Try.prog 14 #[.pointer (some ⟨gc, 0, none⟩), .int .i64 0, .int .i64 N] W fun e w' => e = .returned (.tuple #[.string (strB dc.vis), .int .i64 0]) ∧ w' = W) ∧ (Calls Try.prog 14 #[.pointer (some ⟨ga, 0, none⟩), .int .i64 0, .int .i64 N] W fun e w' => e = .returned (.tuple #[.string (strB dc.vis), .int .i64 0]) ∧ w' = W) ∧ (Calls Try.prog 17 #[.pointer (some ⟨gc, 0, none⟩)] W fun e w' => e = .returned (.int .i64 dc.pend.length) ∧ w' = W) ∧ (Calls Try.prog 17 #[.pointer (some ⟨ga, 0, none⟩)] W fun e w' => e = .returned (.int .i64 dc.pend.length) ∧ w' = W) := fun W hW => by
        obtain ⟨hc, hd, ha, e1, e2, e3, t⟩ := hW
        subst e1 e3
        obtain ⟨r1, r2⟩ := read_all t.c.ok sc.lost sc.n
        have q1 := read_any t.c 0 N (by decide) (by decide)
        have q2 := read_any t.a 0 N (by decide) (by decide)
        rw [r1, r2] at q1 q2
        exact ⟨q1, q2, pending_any t.c, pending_any t.a⟩
      obtain ⟨q1, q2, q3, q4⟩ := rd _ hM
      obtain ⟨S, hS⟩ : ∃ S, S = strB dc.vis := ⟨_, rfl⟩
      obtain ⟨P, hP⟩ : ∃ P, P = dc.pend.length := ⟨_, rfl⟩
      rw [← hS] at q1 q2
      rw [← hP] at q3 q4
      have Q1 := Lib.hid q1; have Q2 := Lib.hid q2; have Q3 := Lib.hid q3; have Q4 := Lib.hid q4; have BE := Lib.hid hM.bel
      clear rd q1 q2 q3 q4 hS hP hM sc sd hlt
      by_cases hkn : k < n
      · obtain rfl := cond hkn
        have h2 : (30 : Int) < (n : Int) := by omega
        clear cond
        go_upto_region 18 with (go_at_call 14; (with_reducible refine (Q1.out).mono ?_); rintro e w7 ⟨rfl, rfl⟩)
        go_wp2_with first | (go_at_call 14; (with_reducible refine (Q2.out).mono ?_); rintro e w8 ⟨rfl, rfl⟩) | (go_at_call 17; (with_reducible refine (Q3.out).mono ?_); rintro e w8 ⟨rfl, rfl⟩) | (go_at_call 17; (with_reducible refine (Q4.out).mono ?_); rintro e w8 ⟨rfl, rfl⟩)
        go_ret
        exact ⟨rfl, BE.out⟩
      · obtain rfl : k = n := by omega
        clear cond
        go_upto_region 18 with (go_at_call 14; (with_reducible refine (Q1.out).mono ?_); rintro e w7 ⟨rfl, rfl⟩)
        go_wp2_with first | (go_at_call 14; (with_reducible refine (Q2.out).mono ?_); rintro e w8 ⟨rfl, rfl⟩) | (go_at_call 17; (with_reducible refine (Q3.out).mono ?_); rintro e w8 ⟨rfl, rfl⟩) | (go_at_call 17; (with_reducible refine (Q4.out).mono ?_); rintro e w8 ⟨rfl, rfl⟩)
        go_ret
        exact ⟨rfl, BE.out⟩
end Go.Proofs.Ytghcffpcblficaa
