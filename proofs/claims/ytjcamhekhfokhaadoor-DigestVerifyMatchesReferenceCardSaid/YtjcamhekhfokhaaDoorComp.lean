/- digest.compress returns what the state becomes by one block, where the table holds its words. -/
import Derived.Test.YtjcamhekhfokhaaDoorSched
namespace Go.Proofs.YtjcamhekhfokhaaDoor
open Go.RowKit

/-- The table's cells. -/
def Tab (w : World) : Prop := ∀ i, i < 64 → w.cell? ⟨0, i, none⟩ = some (.int .u32 (kN i : Int))
theorem Tab.below {w w' : World} (h : Tab w) (hb : Below w.heap.size w w') : Tab w' := fun i hi => (hb.cell (p := ⟨0, i, none⟩) (World.block_lt_of_cell? _ _ (h i hi))).trans (h i hi)

def s8A (s : S8) : Array Value := #[.int .u32 (s.a : Int), .int .u32 (s.b : Int), .int .u32 (s.c : Int), .int .u32 (s.d : Int), .int .u32 (s.e : Int), .int .u32 (s.f : Int), .int .u32 (s.g : Int), .int .u32 (s.h : Int)]
structure S8.ok (s : S8) : Prop where
  a : s.a < 4294967296
  b : s.b < 4294967296
  c : s.c < 4294967296
  d : s.d < 4294967296
  e : s.e < 4294967296
  f : s.f < 4294967296
  g : s.g < 4294967296
  h : s.h < 4294967296
theorem rnd_ok {s : S8} (h : s.ok) (k w : Nat) : (rnd s k w).ok := ⟨add32_lt _ _, h.a, h.b, h.c, add32_lt _ _, h.e, h.f, h.g⟩
theorem rounds_ok (b : List UInt8) {s : S8} (h : s.ok) : ∀ i, (rounds8 b s i).ok
  | 0 => h
  | i + 1 => rnd_ok (rounds_ok b h i) _ _
theorem comp_ok (s : S8) (b : List UInt8) : (comp s b).ok := ⟨add32_lt _ _, add32_lt _ _, add32_lt _ _, add32_lt _ _, add32_lt _ _, add32_lt _ _, add32_lt _ _, add32_lt _ _⟩
theorem Sg1_lt {e : Nat} (h : e < 4294967296) : Sg1 e < 4294967296 := xor_lt (xor_lt (rotr_lt e 6 h) (rotr_lt e 11 h)) (rotr_lt e 25 h)
theorem Sg0_lt {e : Nat} (h : e < 4294967296) : Sg0 e < 4294967296 := xor_lt (xor_lt (rotr_lt e 2 h) (rotr_lt e 13 h)) (rotr_lt e 22 h)
theorem Sg1_bits {e : Nat} (h : e < 4294967296) : bits .xor .u32 (bits .xor .u32 (rotr e 6 : Int) (rotr e 11 : Int)) (rotr e 25 : Int) = (Sg1 e : Int) := by
  rw [u32_xor_nat _ _ (rotr_lt e 6 h) (rotr_lt e 11 h), u32_xor_nat _ _ (xor_lt (rotr_lt e 6 h) (rotr_lt e 11 h)) (rotr_lt e 25 h)]; rfl
theorem Sg0_bits {e : Nat} (h : e < 4294967296) : bits .xor .u32 (bits .xor .u32 (rotr e 2 : Int) (rotr e 13 : Int)) (rotr e 22 : Int) = (Sg0 e : Int) := by
  rw [u32_xor_nat _ _ (rotr_lt e 2 h) (rotr_lt e 13 h), u32_xor_nat _ _ (xor_lt (rotr_lt e 2 h) (rotr_lt e 13 h)) (rotr_lt e 22 h)]; rfl
theorem not_bits {e : Nat} (h : e < 4294967296) : bits .xor .u32 IntKind.u32.max (e : Int) = ((4294967295 - e : Nat) : Int) := by
  have hx := u32_xor_nat 4294967295 e (by omega) h
  have e1 : 4294967295 ^^^ e = 4294967295 - e := by
    have h1 : (~~~ (BitVec.ofNat 32 e)).toNat = 4294967295 - e := by rw [BitVec.toNat_not, BitVec.toNat_ofNat, Nat.mod_eq_of_lt h]
    have h2 : (BitVec.allOnes 32 ^^^ BitVec.ofNat 32 e).toNat = 4294967295 ^^^ e := by rw [BitVec.toNat_xor, BitVec.toNat_ofNat, Nat.mod_eq_of_lt h]; rfl
    rw [BitVec.allOnes_xor, h1] at h2
    exact h2.symm
  rw [e1] at hx
  exact hx
theorem choose_bits {e f g : Nat} (he : e < 4294967296) (hf : f < 4294967296) (hg : g < 4294967296) :
    bits .xor .u32 (bits .and .u32 (e : Int) (f : Int)) (bits .and .u32 (bits .xor .u32 IntKind.u32.max (e : Int)) (g : Int)) = (choose e f g : Int) := by
  rw [not_bits he, u32_and_nat e f he hf, u32_and_nat _ g (by omega) hg, u32_xor_nat _ _ (and_lt he) (and_lt (by omega))]; rfl
theorem choose_bits' {e f g : Nat} (he : e < 4294967296) (hf : f < 4294967296) (hg : g < 4294967296) :
    bits .xor .u32 (bits .and .u32 (e : Int) (f : Int)) (bits .and .u32 (bits .xor .u32 (if IntKind.u32.signed = true then -1 else IntKind.u32.max) (e : Int)) (g : Int)) = (choose e f g : Int) := choose_bits he hf hg
theorem add_mod (a b : Nat) : ((a : Int) + (b : Int)) % 4294967296 = (add32 a b : Int) := by rw [← add_wrap, IntKind.wrap_u32']
theorem choose_lt {e f g : Nat} (he : e < 4294967296) : choose e f g < 4294967296 := xor_lt (and_lt he) (and_lt (by omega))
theorem major_bits {a b c : Nat} (ha : a < 4294967296) (hb : b < 4294967296) (hc : c < 4294967296) :
    bits .xor .u32 (bits .xor .u32 (bits .and .u32 (a : Int) (b : Int)) (bits .and .u32 (a : Int) (c : Int))) (bits .and .u32 (b : Int) (c : Int)) = (major a b c : Int) := by
  rw [u32_and_nat a b ha hb, u32_and_nat a c ha hc, u32_and_nat b c hb hc, u32_xor_nat _ _ (and_lt ha) (and_lt ha), u32_xor_nat _ _ (xor_lt (and_lt ha) (and_lt ha)) (and_lt hb)]; rfl

theorem size64 : (Tryd.prog.info? 64).map (·.size) = some 64 := by kernel_rfl
theorem size72 : (Tryd.prog.info? 72).map (·.size) = some 64 := by kernel_rfl
theorem size60 : (Tryd.prog.info? 60).map (·.size) = some 8 := by kernel_rfl
set_option maxRecDepth 100000 in
set_option maxHeartbeats 2000000 in
theorem comp_any (s : S8) (hs : s.ok) (b : List UInt8) (hb : b.length = 64) (w : World) (ht : Tab w) :
    Calls Tryd.prog 56 #[.agg (s8A s), .agg (blkA b)] w fun e w' => e = .returned (.agg (s8A (comp s b))) ∧ Below w.heap.size w w' := by
  have HT := Lib.hid ht; clear ht
  have y64 : (Tryd.prog.info? 64).map (·.size) = some (blkA b).size := by
    have : (blkA b).size = 64 := by simp [blkA, hb]
    rw [this]; exact size64
  have z64 := Lib.hid y64; clear y64
  obtain ⟨L, hL⟩ : ∃ L, L = wA (sched b 64) := ⟨_, rfl⟩
  have sL : L.size = 64 := by rw [hL]; simp [wA, sched_len]
  have pL : L.all (·.oneCell') = true := by rw [hL]; exact wA_one _
  have y72 : (Tryd.prog.info? 72).map (·.size) = some L.size := by rw [sL]; exact size72
  have oL := Lib.hid pL; have z72 := Lib.hid y72; clear pL y72
  have SL := Lib.hid sL
  have hcall := fun w => sched_any b hb w
  rw [← hL] at hcall
  have HL := Lib.hid hL
  clear hb sL hL
  go_enter Tryd.func56, Tryd.ntmps56
  go_wp2_with (first
    | ((with_reducible refine wpList_load_row (o := ⟨some 17, _, _, _, _, _⟩) rfl 64 (.tmp 3) rfl (w.heap.size + 1) ?_ 64 (blkA b) (0, 0) _ ?_ Tryd.underlying64 ?_ ?_ ?_); exact rfl; exact (Row.made_at _ _ _ (by simp)).later _; exact rfl; exact z64.out)
    | (go_at_call 62; refine (hcall _).mono ?_; rintro e w1 ⟨rfl, b1⟩)
    | ((with_reducible refine wpList_store_row (o := ⟨none, .store 72 _ _, _, _, _, _⟩) rfl 72 (.tmp 5) (.tmp 18) rfl w1.heap.size L ?_ ?_ 72 (Array.replicate 64 (.int .u32 0)) ?_ ?_ ?_ ?_ ?_); exact rfl; exact rfl; exact Row.made _ _ _; exact z72.out; (rw [SL.out]; rfl); exact oL.out))
  generalize hw2 : (w1.alloc _).setRow w1.heap.size L = w2
  have sz : w.heap.size + 3 ≤ w1.heap.size := by have := b1.size; simp at this; omega
  have bw1 : Below w.heap.size w w1 := ((((Below.refl _ _).alloc (Nat.le_refl _) _).alloc (by simp) _).alloc (by simp; omega) _).trans (b1.mono (by simp; omega))
  have hbw : Below w.heap.size w w2 := by rw [← hw2]; exact below_row (bw1.alloc bw1.size _) bw1.size _
  have r0 : Row w2 w.heap.size 60 (s8A s) := by
    rw [← hw2]
    exact ((((Row.made w _ _).later _).later _).below b1 (by simp; omega)).later _ |>.aside_row (by omega) _
  have r2 : ∃ Z, Row w2 (w.heap.size + 1 + 1) 60 Z ∧ Z.size = 8 := by
    rw [← hw2]
    exact ⟨_, ((Row.made_at _ _ _ (by simp)).below b1 (by simp)).later _ |>.aside_row (by omega) _, rfl⟩
  obtain ⟨Z, r2, hZ⟩ := r2
  have r5 : Row w2 w1.heap.size 72 L := by rw [← hw2]; exact (Row.made _ _ _).whole _
  have ht2 : Tab w2 := HT.out.below hbw
  obtain ⟨a, b', c, d, e, f, g, h⟩ := s
  have c0 := r0.at (i := 0) (v := .int .u32 (a : Int)) rfl
  have c1 := r0.at (i := 1) (v := .int .u32 (b' : Int)) rfl
  have c2 := r0.at (i := 2) (v := .int .u32 (c : Int)) rfl
  have c3 := r0.at (i := 3) (v := .int .u32 (d : Int)) rfl
  have c4 := r0.at (i := 4) (v := .int .u32 (e : Int)) rfl
  have c5 := r0.at (i := 5) (v := .int .u32 (f : Int)) rfl
  have c6 := r0.at (i := 6) (v := .int .u32 (g : Int)) rfl
  have c7 := r0.at (i := 7) (v := .int .u32 (h : Int)) rfl
  have R0 := Lib.hid r0; have R2 := Lib.hid r2; have R5 := Lib.hid r5; have HZ := Lib.hid hZ; have HT2 := Lib.hid ht2; have HB := Lib.hid hbw
  clear hw2 r0 r2 r5 hZ ht2 hbw bw1 b1
  go_quiet (fail)
  go_wp2
  go_quiet (fail)
  go_wp2
  have h0 : Hid ((⟨a, b', c, d, e, f, g, h⟩ : S8).ok) := hs
  go_loopw [6, 7, 8, 9, 10, 11, 12, 13, 35] (fun pa pb pc pd pe pf pg ph p wr => ∃ (i n : Nat) (r : S8), p = .int .i64 i ∧ i ≤ 64 ∧ r = rounds8 b ⟨a, b', c, d, e, f, g, h⟩ i ∧ pa = .int .u32 (r.a : Int) ∧ pb = .int .u32 (r.b : Int) ∧ pc = .int .u32 (r.c : Int) ∧ pd = .int .u32 (r.d : Int) ∧
      pe = .int .u32 (r.e : Int) ∧ pf = .int .u32 (r.f : Int) ∧ pg = .int .u32 (r.g : Int) ∧ ph = .int .u32 (r.h : Int) ∧ wr = w2.drewN n)
    (fun _ _ _ _ _ _ _ _ p _ => 64 - (intOf p).toNat)
  case atStart => exact ⟨0, _, _, rfl, by omega, rfl, rfl, rfl, rfl, rfl, rfl, rfl, rfl, rfl, by first | rfl | rw [World.drewN_drewN]⟩
  case round =>
    obtain ⟨i, n, r, rfl, hi, hr, rfl, rfl, rfl, rfl, rfl, rfl, rfl, rfl, rfl⟩ := hrel
    have ok : r.ok := by rw [hr]; exact rounds_ok b h0.out i
    by_cases hlt : i < 64
    · have hnext : rnd r (kN i) (schedW b i) = rounds8 b ⟨a, b', c, d, e, f, g, h⟩ (i + 1) := by rw [rounds8, ← hr]
      have HN := Lib.hid hnext
      obtain ⟨ra, rb, rc, rd, re, rf, rg, rh⟩ := r
      obtain ⟨la, lb, lc, ld, le, lf, lg, lh⟩ := ok
      dsimp only at la lb lc ld le lf lg lh ⊢
      obtain ⟨k, hk⟩ : ∃ k, k = kN i := ⟨_, rfl⟩
      obtain ⟨x, hx⟩ : ∃ x, x = schedW b i := ⟨_, rfl⟩
      have ck := HT2.out i hlt
      have cx := R5.out.at (i := i) (v := .int .u32 (x : Int)) (by
        rw [HL.out, hx, schedW, wA]
        simp [List.getD_eq_getElem?_getD, List.getElem?_eq_getElem (show i < (sched b 64).length by rw [sched_len]; exact hlt)])
      rw [← hk] at ck
      obtain ⟨p1, hp1⟩ : ∃ q, q = Sg1 re := ⟨_, rfl⟩
      obtain ⟨p2, hp2⟩ : ∃ q, q = choose re rf rg := ⟨_, rfl⟩
      obtain ⟨p3, hp3⟩ : ∃ q, q = Sg0 ra := ⟨_, rfl⟩
      obtain ⟨p4, hp4⟩ : ∃ q, q = major ra rb rc := ⟨_, rfl⟩
      obtain ⟨q1, hq1⟩ : ∃ q, q = add32 rh p1 := ⟨_, rfl⟩
      obtain ⟨q2, hq2⟩ : ∃ q, q = add32 q1 p2 := ⟨_, rfl⟩
      obtain ⟨q3, hq3⟩ : ∃ q, q = add32 q2 k := ⟨_, rfl⟩
      obtain ⟨tt, htt⟩ : ∃ q, q = add32 q3 x := ⟨_, rfl⟩
      obtain ⟨uu, huu⟩ : ∃ q, q = add32 p3 p4 := ⟨_, rfl⟩
      obtain ⟨na, hna⟩ : ∃ q, q = add32 tt uu := ⟨_, rfl⟩
      obtain ⟨ne, hne⟩ : ∃ q, q = add32 rd tt := ⟨_, rfl⟩
      have e1 := Sg1_bits le
      have e2 := choose_bits le lf lg
      have e2' := choose_bits' le lf lg
      have e3 := Sg0_bits la
      have e4 := major_bits la lb lc
      have a1 := add_wrap rh p1
      have b1 := add_mod rh p1
      have a2 := add_wrap q1 p2
      have b2 := add_mod q1 p2
      have a3 := add_wrap q2 k
      have b3 := add_mod q2 k
      have a4 := add_wrap q3 x
      have b4 := add_mod q3 x
      have a5 := add_wrap p3 p4
      have b5 := add_mod p3 p4
      have a6 := add_wrap tt uu
      have b6 := add_mod tt uu
      have a7 := add_wrap rd tt
      have b7 := add_mod rd tt
      rw [← hp1] at e1
      rw [← hp2] at e2 e2'
      rw [← hp3] at e3
      rw [← hp4] at e4
      rw [← hq1] at a1 b1
      rw [← hq2] at a2 b2
      rw [← hq3] at a3 b3
      rw [← htt] at a4 b4
      rw [← huu] at a5 b5
      rw [← hna] at a6 b6
      rw [← hne] at a7 b7
      have hfin : (⟨na, ra, rb, rc, ne, re, rf, rg⟩ : S8) = rounds8 b ⟨a, b', c, d, e, f, g, h⟩ (i + 1) := by
        rw [← hnext, hna, hne, huu, htt, hq3, hq2, hq1, hp1, hp2, hp3, hp4, hk, hx]; rfl
      have HF := Lib.hid hfin
      have ki : (i : Int) < 64 := by omega
      have ni : (0 : Int) ≤ (i : Int) := by omega
      clear hfin hr hnext hk hx hp1 hp2 hp3 hp4 hq1 hq2 hq3 htt huu hna hne
      go_wp2
      go_quiet ((first | (go_at_call 63; exact quiet_more (right_any re _ le (by decide) (by decide)))))
      go_wp2_with (go_at_call 63; refine (right_any ra _ la (by decide) (by decide) _).mono ?_; rintro e w' ⟨rfl, rfl⟩)
      clear a1 a2 a3 a4 a5 a6 a7 b1 b2 b3 b4 b5 b6 b7 e1 e2 e2' e3 e4
      go_roundw
      case rel =>
        exact ⟨i + 1, _, _, by go_num, by omega, HF.out, rfl, rfl, rfl, rfl, rfl, rfl, rfl, rfl, rfl⟩
      case measure => simp [intOf]; omega
    · obtain rfl : i = 64 := by omega
      obtain ⟨ra, rb, rc, rd, re, rf, rg, rh⟩ := r
      obtain ⟨fa, hfa⟩ : ∃ q, q = add32 a ra := ⟨_, rfl⟩
      have ma := add_mod a ra
      have oa := add_wrap a ra
      rw [← hfa] at ma oa
      obtain ⟨fb, hfb⟩ : ∃ q, q = add32 b' rb := ⟨_, rfl⟩
      have mb := add_mod b' rb
      have ob := add_wrap b' rb
      rw [← hfb] at mb ob
      obtain ⟨fc, hfc⟩ : ∃ q, q = add32 c rc := ⟨_, rfl⟩
      have mc := add_mod c rc
      have oc := add_wrap c rc
      rw [← hfc] at mc oc
      obtain ⟨fd, hfd⟩ : ∃ q, q = add32 d rd := ⟨_, rfl⟩
      have md := add_mod d rd
      have od := add_wrap d rd
      rw [← hfd] at md od
      obtain ⟨fe, hfe⟩ : ∃ q, q = add32 e re := ⟨_, rfl⟩
      have me := add_mod e re
      have oe := add_wrap e re
      rw [← hfe] at me oe
      obtain ⟨ff, hff⟩ : ∃ q, q = add32 f rf := ⟨_, rfl⟩
      have mf := add_mod f rf
      have of := add_wrap f rf
      rw [← hff] at mf of
      obtain ⟨fg, hfg⟩ : ∃ q, q = add32 g rg := ⟨_, rfl⟩
      have mg := add_mod g rg
      have og := add_wrap g rg
      rw [← hfg] at mg og
      obtain ⟨fh, hfh⟩ : ∃ q, q = add32 h rh := ⟨_, rfl⟩
      have mh := add_mod h rh
      have oh := add_wrap h rh
      rw [← hfh] at mh oh
      have hfin : s8A (comp ⟨a, b', c, d, e, f, g, h⟩ b) = #[.int .u32 (fa : Int), .int .u32 (fb : Int), .int .u32 (fc : Int), .int .u32 (fd : Int), .int .u32 (fe : Int), .int .u32 (ff : Int), .int .u32 (fg : Int), .int .u32 (fh : Int)] := by
        unfold comp
        rw [← hr, hfa, hfb, hfc, hfd, hfe, hff, hfg, hfh]; rfl
      have HF := Lib.hid hfin
      clear hfin hr hfa hfb hfc hfd hfe hff hfg hfh
      dsimp only
      go_wp2_with (first
        | ((with_reducible refine wpList_store_row (o := ⟨none, .store 60 _ _, _, _, _, _⟩) rfl 60 (.tmp 4) (.tmp 130) rfl (w.heap.size + 1 + 1) #[.int .u32 (fa : Int), .int .u32 (fb : Int), .int .u32 (fc : Int), .int .u32 (fd : Int), .int .u32 (fe : Int), .int .u32 (ff : Int), .int .u32 (fg : Int), .int .u32 (fh : Int)] ?_ ?_ 60 Z ?_ ?_ ?_ ?_ ?_); exact rfl; exact rfl; exact R2.out.drawnN _; exact size60; (rw [HZ.out]; rfl); (simp [Value.oneCell'])))
      refine bodyPost_ret (v := .agg #[.int .u32 (fa : Int), .int .u32 (fb : Int), .int .u32 (fc : Int), .int .u32 (fd : Int), .int .u32 (fe : Int), .int .u32 (ff : Int), .int .u32 (fg : Int), .int .u32 (fh : Int)]) ?_ rfl ?_
      · exact results_cell_row rfl _ _ (w.heap.size + 1 + 1) 60 _ (0, 0) _ rfl ((R2.out.drawnN _).whole _) Tryd.underlying60 rfl size60
      · exact ⟨ret_agg HF.out.symm, below_row (below_drawnN HB.out _) (by omega) _⟩
end Go.Proofs.YtjcamhekhfokhaaDoor
