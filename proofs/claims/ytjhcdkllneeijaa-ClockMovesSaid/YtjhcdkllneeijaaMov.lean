/- The walk of ClockMoves. -/
import Derived.Test.YtjhcdkllneeijaaOwn
namespace Go.Proofs.Ytjhcdkllneeijaa
open Go.RowKit

def mv (n : Int) (r : Rd) : Rd := (r.1, r.2.1 + n, r.2.2 + n)
theorem good_mv {n : Int} (n0 : 0 ≤ n) : ∀ (rs : List Rd) (b : Int), (∀ r ∈ rs, r.2.2 + n ≤ 10000000) → goodB b rs = true → goodB b (rs.map (mv n)) = true
  | [], _, _, _ => rfl
  | x :: l, b, hb, h => by
    simp only [goodB, Bool.and_eq_true, decide_eq_true_eq] at h
    obtain ⟨⟨⟨⟨⟨a1, a2⟩, a3⟩, a4⟩, a5⟩, a6⟩ := h
    have h1 := hb x (by simp)
    have ih := good_mv n0 l x.1 (fun r hr => hb r (by simp [hr])) a6
    simp only [List.map_cons, goodB, mv, Bool.and_eq_true, decide_eq_true_eq]
    exact ⟨⟨⟨⟨⟨a1, a2⟩, by omega⟩, by omega⟩, by omega⟩, ih⟩
theorem bnd_mv (d n l : Int) (r : Rd) : bnd d (mv n r) l = ((bnd d r l).1 + n, (bnd d r l).2 + n) := by
  unfold bnd mv
  dsimp only
  split
  · exact Prod.ext (by dsimp only; omega) (by dsimp only; omega)
  · split
    · exact Prod.ext (by dsimp only; omega) (by dsimp only; omega)
    · exact Prod.ext (by dsimp only; omega) (by dsimp only; omega)
theorem moves_facts {d start : Int} {rates : List Int} (d0 : 0 ≤ d) (d1 : d ≤ 100) {rs : List Rd} (h : Mok d start rates rs) {n l : Int} (n0 : 0 ≤ n) (n1 : n < 100000) (l0 : 0 ≤ l) (l1 : l < 5000) :
    ∃ x y e a b f : Int, atS d rs l = (x, y, e) ∧ atS d (rs.map (mv n)) l = (a, b, f) ∧ 0 ≤ x ∧ x ≤ 10000000 ∧ 0 ≤ y ∧ y ≤ 10000000 ∧ (rs ≠ [] → e = 0 → f = 0 → x ≠ 0 → a = x + n ∧ b = y + n) := by
  have hv := h.valid d0 d1
  have hrg := h.range d0 d1
  have hv' : validB d (rs.map (mv n)) = true := valid_iff.2 ⟨⟨d0, d1⟩, by rw [List.length_map]; exact h.len, good_mv n0 rs (-1) (fun r hr => by have := hrg r hr; omega) h.good⟩
  have ol : okT l = true := okT_iff.2 ⟨l0, by omega⟩
  have w1 := win_lo d l rs
  have w2 := win_hi d l rs
  by_cases c1 : (win d rs l).1 ≤ (win d rs l).2
  · by_cases c2 : (win d (rs.map (mv n)) l).1 ≤ (win d (rs.map (mv n)) l).2
    · refine ⟨_, _, _, _, _, _, if_pos ⟨hv, ol, c1⟩, if_pos ⟨hv', ol, c2⟩, w1, by omega, by omega, w2, fun hne _ _ hx => ?_⟩
      have q1 := win_fst.1 (Int.le_refl (win d rs l).1)
      have q2 := win_snd.1 (Int.le_refl (win d rs l).2)
      have q3 := win_fst.1 (Int.le_refl (win d (rs.map (mv n)) l).1)
      have q4 := win_snd.1 (Int.le_refl (win d (rs.map (mv n)) l).2)
      have hmem : ∀ r ∈ rs, (bnd d r l).1 + n ≤ (win d (rs.map (mv n)) l).1 ∧ (win d (rs.map (mv n)) l).2 ≤ (bnd d r l).2 + n := fun r hr => by
        have m := List.mem_map_of_mem (f := mv n) hr
        have a1 := q3.2 _ m
        have a2 := q4.2 _ m
        rw [bnd_mv] at a1 a2
        exact ⟨a1, a2⟩
      obtain ⟨r0, hr0⟩ := List.exists_mem_of_ne_nil rs hne
      have hb0 : (bnd d r0 l).2 ≤ 30000 := by
        have k := hrg r0 hr0
        unfold bnd
        split
        · have := hi_small (n := l - r0.1) d0 d1 (by omega) (by omega); dsimp only; omega
        · split
          · have := lo_nonneg (n := r0.1 - l) d0; dsimp only; omega
          · have := hi_small (n := 0) d0 d1 (by omega) (by omega); dsimp only; omega
      have hy := q2.2 r0 hr0
      have u1 : (win d (rs.map (mv n)) l).1 ≤ (win d rs l).1 + n := win_fst.2 ⟨by omega, fun r hr => by
        obtain ⟨r', hr', rfl⟩ := List.mem_map.1 hr
        rw [bnd_mv]
        have := q1.2 r' hr'
        dsimp only; omega⟩
      have u2 : (win d rs l).1 + n ≤ (win d (rs.map (mv n)) l).1 := by
        by_cases hneg : (win d (rs.map (mv n)) l).1 - n < 0
        · have : (win d rs l).1 ≤ 0 := win_fst.2 ⟨Int.le_refl _, fun r hr => by have := (hmem r hr).1; omega⟩
          omega
        · have : (win d rs l).1 ≤ (win d (rs.map (mv n)) l).1 - n := win_fst.2 ⟨by omega, fun r hr => by have := (hmem r hr).1; omega⟩
          omega
      have u3 : (win d rs l).2 + n ≤ (win d (rs.map (mv n)) l).2 := win_snd.2 ⟨by omega, fun r hr => by
        obtain ⟨r', hr', rfl⟩ := List.mem_map.1 hr
        rw [bnd_mv]
        have := q2.2 r' hr'
        dsimp only; omega⟩
      have u4 : (win d (rs.map (mv n)) l).2 - n ≤ (win d rs l).2 := win_snd.2 ⟨by have := q4.1; omega, fun r hr => by have := (hmem r hr).2; omega⟩
      exact ⟨by omega, by omega⟩
    · exact ⟨_, _, _, 0, 0, 50, if_pos ⟨hv, ol, c1⟩, if_neg (fun k => c2 k.2.2), w1, by omega, by omega, w2, fun _ _ h => by omega⟩
  · obtain ⟨a, b, f, hf⟩ : ∃ a b f, atS d (rs.map (mv n)) l = (a, b, f) := ⟨_, _, _, rfl⟩
    exact ⟨0, 0, 50, a, b, f, if_neg (fun k => c1 k.2.2), hf, by omega, by omega, by omega, by omega, fun _ h => by omega⟩

set_option maxRecDepth 100000 in
set_option maxHeartbeats 16000000 in
theorem moves_walk (drift start by0 l0 : Int) (rates : List Int) (RA : Option Addr) (rc : Nat) (l : List Rd) (LA : Option Addr) (lc : Nat) (b0 : In64 drift) (b1 : In64 start) (b2 : In64 by0) (b3 : In64 l0) (hrr : ∀ r ∈ rates, In64 r) (hrn : rates.length ≤ 9223372036854775807)
    (hlr : ∀ r ∈ l, In64 r.1 ∧ In64 r.2.1 ∧ In64 r.2.2) (hln : l.length ≤ 9223372036854775807) (w : World) (hr : Nums w w.heap.size RA rates) (hl : Rds w w.heap.size LA l)
    (hsane : ∀ W : World, Calls Try.prog 10 #[] W fun e w' => e = .returned (.bool true) ∧ Below W.heap.size W w') :
    Calls Try.prog 9 #[.int .i64 drift, .int .i64 start, .slice RA rates.length rc, .slice LA l.length lc, .int .i64 by0, .int .i64 l0] w fun e w' => e = .returned (.bool true) ∧ Below w.heap.size w w' := by
  obtain ⟨i0, hi0, hz0, hz1, hz2⟩ := info_parts rd_info
  have r1 := pk_range (c := drift) (n := 101) (by omega)
  have p1 := fun W => pick_any by0 100000 b2.1 b2.2 (by omega) (by omega) W
  have r2 := pk_range (c := by0) (n := 100000) (by omega)
  generalize pk by0 100000 = n at *
  have p2 := fun W => pick_any l0 5000 b3.1 b3.2 (by omega) (by omega) W
  have r3 := pk_range (c := l0) (n := 5000) (by omega)
  generalize pk l0 5000 = q at *
  have hm := fun (W : World) (hb : Below w.heap.size w W) => k_made drift start rates RA rc l LA lc b0 b1 hrr hrn hlr hln W (hr.deep hb) ((hl.below hb).more hb.size)
  obtain ⟨R, hR⟩ : ∃ R, R = rates.length := ⟨_, rfl⟩
  obtain ⟨L, hL⟩ : ∃ L, L = l.length := ⟨_, rfl⟩
  rw [← hR, ← hL] at hm
  rw [← hR, ← hL]
  obtain ⟨D, hD⟩ : ∃ D, D = pk drift 101 := ⟨_, rfl⟩
  rw [← hD] at hm r1
  have hfac := fun (rs : List Rd) (h : Mok D start rates rs) => moves_facts r1.1 (show D ≤ 100 by omega) h r2.1 r2.2 r3.1 r3.2
  have hrng := fun (rs : List Rd) (h : Mok D start rates rs) => h.range r1.1 (show D ≤ 100 by omega)
  have P1 := Lib.hid p1; have P2 := Lib.hid p2; have HM := Lib.hid hm; have HS := Lib.hid hsane; have HF := Lib.hid hfac; have HR := Lib.hid hrng
  obtain ⟨r1a, r1b⟩ := r1; obtain ⟨r2a, r2b⟩ := r2; obtain ⟨r3a, r3b⟩ := r3
  clear p1 p2 hm hsane hfac hrng hR hL hD hrr hlr hr hl b0 b1 b2 b3 hrn hln
  go_enter Try.func9, Try.ntmps9
  go_wp2_with (first
    | (go_at_call 10; (refine (HS.out _).mono ?_); rintro e w1 ⟨rfl, hb1⟩; have B1 := Lib.hid hb1; clear hb1)
    | (go_at_call 16; (refine (HM.out _ B1.out).mono ?_); rintro e w2 ⟨A, cap, N, rs, rfl, hN, hN12, hok, hrd, hb2⟩; obtain ⟨x, y, er, a, b, f, fa, fb, fx0, fx1, fy0, fy1, ff⟩ := HF.out rs hok; have FA := Lib.hid fa; have FB := Lib.hid fb; have FF := Lib.hid ff; have RG := Lib.hid (HR.out rs hok); have hn : N ≤ 9223372036854775807 := (by omega); have K3 := Lib.hid (Ck.box (d := D) (cap := cap) hrd hN _ rfl); have B3 := Lib.hid (keep_alloc (below_step B1.out hb2) (.cells #[.int .i64 D, .slice A N cap] 24)); obtain ⟨k0, k1, _, _⟩ := K3.out.eqs; have HN := Lib.hid hN; clear hb2 hok hrd hN fa fb ff)
    | (go_at_call 19; (first | (with_reducible refine (P1.out _).mono ?_) | (with_reducible refine (P2.out _).mono ?_)); rintro e wx ⟨rfl, hwx⟩; have hwx := hwx.symm; subst hwx))
  obtain ⟨W3, hW3⟩ : ∃ W3, W3 = w2.alloc (Obj.cells #[Value.int IntKind.i64 D, Value.slice A N cap] 24) := ⟨_, rfl⟩
  have z3 : W3.heap.size = w2.heap.size + 1 := by rw [hW3]; simp
  have k3 := K3.out
  have b3 := B3.out
  rw [← hW3] at k3 b3 ⊢
  have b4' := b3
  have K4 := Lib.hid k3; have B4 := Lib.hid b3
  clear K3 B3 k3 b3 k0 k1 hW3
  obtain ⟨W4, hW4⟩ : ∃ W4, W4 = W3.alloc (Obj.cells #[Value.int IntKind.i64 D, Value.slice none 0 0] 24) := ⟨_, rfl⟩
  have o4 : Own1 (w2.heap.size + 2) W4 (w2.heap.size + 1) D none 0 [] := by rw [hW4]; exact Own1.new _ _ _ _ z3
  have b4 : Below W3.heap.size W3 W4 := by rw [hW4]; exact below_alloc _ _
  have s4 : w2.heap.size + 2 ≤ W4.heap.size := by rw [hW4]; simp; omega
  rw [← hW4]
  have O4 := Lib.hid o4; have BB4 := Lib.hid b4
  clear o4 b4 hW4
  go_loopg [18, 19] N (fun kx s18 s19 wr => ∃ (k cap' : Nat) (A' : Option Addr), s18 = .int .i64 (k : Int) ∧ k + kx = N ∧ Below W3.heap.size W3 wr ∧ Own1 (w2.heap.size + 2) wr (w2.heap.size + 1) D A' cap' ((rs.take k).map (mv n)) ∧ w2.heap.size + 2 ≤ wr.heap.size)
  case atStart => exact ⟨0, 0, none, rfl, by omega, BB4.out, O4.out, s4⟩
  case round =>
    have hw3 := b4'.size
    clear BB4 O4 HM HS P1 P2 s4
    obtain ⟨k, cap', A', rfl, hk, hb, ho, hs⟩ := hrel
    have hK := K4.out.step hb
    obtain ⟨c0, c1, _, _⟩ := hK.eqs
    obtain ⟨d0, d1, d2, d3⟩ := ho.row.two
    by_cases hlt : k < N
    · obtain ⟨⟨q1, q2, q3⟩, hv⟩ : ∃ y, rs[k]? = some y := ⟨rs[k]'(by rw [← HN.out]; exact hlt), by simp⟩
      obtain ⟨rb, ro, hA, _, e0, e1, e2⟩ := hK.rds.at hv
      subst hA
      obtain ⟨g1, g2, g3, g4, g5⟩ := RG.out _ (List.mem_of_getElem? hv)
      dsimp only at e0 e1 e2 g1 g2 g3 g4 g5
      have ht : (rs.take (k + 1)).map (mv n) = (rs.take k).map (mv n) ++ [(q1, q2 + n, q3 + n)] := by
        rw [List.take_add_one, hv, List.map_append]; rfl
      have hlen : k = ((rs.take k).map (mv n)).length := by
        have := HN.out
        rw [List.length_map, List.length_take]; omega
      rw [← hlen] at d1
      have how := ho.own
      rw [← hlen] at how
      have h4 := three_new (wr.alloc (Obj.cells #[Value.int IntKind.i64 q1, Value.int IntKind.i64 q2, Value.int IntKind.i64 q3] 50)) (.int .i64 q1) (.int .i64 (q2 + n)) (.int .i64 (q3 + n)) 50
      rw [show (wr.alloc (Obj.cells #[Value.int IntKind.i64 q1, Value.int IntKind.i64 q2, Value.int IntKind.i64 q3] 50)).heap.size = wr.heap.size + 1 by simp] at h4
      have hrow := ho.row.later (Obj.cells #[Value.int IntKind.i64 q1, Value.int IntKind.i64 q2, Value.int IntKind.i64 q3] 50)
      rw [← hlen] at hrow
      obtain ⟨d4, d5, _, _⟩ := hrow.two
      have HB := Lib.hid hb; have HO := Lib.hid ho; have HOW := Lib.hid how; have HT := Lib.hid ht; have HLE := Lib.hid hlen; have H4 := Lib.hid h4
      clear hb ho how ht hlen h4 hv hK
      go_wp2_with (at_builtin; refine wpList_append_own _ rfl _ _ 22 rfl (w2.heap.size + 2) 50 i0 (.agg #[.int .i64 0, .int .i64 0, .int .i64 0]) 3 24 Try.underlying22 hi0 hz0 hz1 hz2 rfl (by decide) _ _ _ rfl ((HOW.out.alloc _).alloc _) ⟨wr.heap.size + 1, 0, none⟩ 1 1 [.int .i64 q1, .int .i64 (q2 + n), .int .i64 (q3 + n)] rfl rfl H4.out (by simp [Value.oneCell']) (by unfold maxLen; omega) (by omega) (by simp; omega) ?_; intro v' w9 hown' hgrow _; obtain ⟨g', cap2, rfl⟩ := ownsRow_succ hown'; have hkb := Own1.keepB (base := w2.heap.size + 2) (v := .slice (some ⟨g', 0, none⟩) (k + 1) cap2) HLE.out (by omega) (keep_alloc (keep_alloc HB.out _) _) (by simp; omega) ((HO.out.later _).later _) (by omega) hgrow; have nx := Own1.next (r := (q1, q2 + n, q3 + n)) HLE.out (by omega) ((HO.out.later _).later _) hgrow hown'; obtain ⟨n1, n2⟩ := nx; obtain ⟨_, _, n3, n4⟩ := n1.two; have N2 := Lib.hid n2; have KB := Lib.hid hkb; have gs := hgrow.size; clear hown' hgrow n1 n2 hkb)
      go_roundg (N - (k + 1))
      case measure => omega
      case rel => exact ⟨k + 1, cap2, _, by go_num, by omega, KB.out, by rw [HT.out]; exact N2.out, by simp [World.setCell] at gs ⊢; omega⟩
    · have hkN : k = N := by omega
      have hall : (rs.take k).map (mv n) = rs.map (mv n) := by rw [List.take_of_length_le (by rw [hkN, HN.out]; exact Nat.le_refl _)]
      rw [hall] at ho
      have hc2 := ho.ck
      rw [hall] at d1
      rw [show (rs.map (mv n)).length = N by rw [List.length_map, HN.out]] at hc2 d1
      have HB := Lib.hid (b4'.trans (hb.mono (by omega)))
      have CK := Lib.hid hK; have C2 := Lib.hid hc2
      clear hb ho hc2 hK hall hlt
      go_upto_region 15 with (first
        | (go_at_call 20; (first | ((with_reducible refine (k_at hn FA.out CK.out).mono ?_); rintro e w8 ⟨rfl, hb8⟩; have CK8 := Lib.hid (CK.out.step hb8); have C28 := Lib.hid (C2.out.step hb8); have B8 := Lib.hid (below_step HB.out hb8); obtain ⟨x0, x1, _, _⟩ := CK8.out.eqs; obtain ⟨x4, x5, _, _⟩ := C28.out.eqs; clear hb8) | ((with_reducible refine (k_at hn FB.out C28.out).mono ?_); rintro e w9 ⟨rfl, hb9⟩; have CK9 := Lib.hid (CK8.out.step hb9); have B9 := Lib.hid (below_step B8.out hb9); obtain ⟨u0, u1, _, _⟩ := CK9.out.eqs; clear hb9))))
      have ffo := FF.out
      by_cases z0 : N = 0
      · go_wp2
        all_goals go_ret
        all_goals exact ⟨rfl, B9.out⟩
      · have hne : rs ≠ [] := fun h => z0 (by rw [HN.out, h]; rfl)
        have z0' : decide (N = 0) = false := decide_eq_false z0
        by_cases z1 : er = 0
        · by_cases z2 : f = 0
          · by_cases z5 : x = 0
            · clear ffo
              go_wp2
              all_goals go_ret
              all_goals exact ⟨rfl, B9.out⟩
            · by_cases z6 : a = 0
              · clear ffo
                go_wp2
                all_goals go_ret
                all_goals exact ⟨rfl, B9.out⟩
              · obtain ⟨hA, hB⟩ := ffo hne z1 z2 z5
                clear ffo
                subst hA hB
                go_wp2
                all_goals go_ret
                all_goals exact ⟨rfl, B9.out⟩
          · clear ffo
            go_wp2
            all_goals go_ret
            all_goals exact ⟨rfl, B9.out⟩
        · clear ffo
          go_wp2
          all_goals go_ret
          all_goals exact ⟨rfl, B9.out⟩
end Go.Proofs.Ytjhcdkllneeijaa
