/- plus, minus, scale. -/
import Derived.Test.YtgpncnnlhhmjaaaGreatDoorCols
namespace Go.Proofs.YtgpncnnlhhmjaaaGreatDoor
open Go.RowKit

/-- The first i columns of X and Y are joined. -/
def mixL (f : Int → Int → Int) (X Y : List Int) (i : Nat) : List Int := List.zipWith f (X.take i) (Y.take i) ++ X.drop i
theorem mix_len (f : Int → Int → Int) (X Y : List Int) (i : Nat) (h : X.length = Y.length) : (mixL f X Y i).length = X.length := by simp [mixL]; omega
theorem mix_at (f : Int → Int → Int) (X Y : List Int) (i : Nat) (h : X.length = Y.length) (hi : i < X.length) : (mixL f X Y i)[i]? = X[i]? := by
  have hl : (List.zipWith f (X.take i) (Y.take i)).length = i := by simp; omega
  rw [mixL, List.getElem?_append_right (by omega), hl, Nat.sub_self, List.getElem?_drop]; simp
theorem mix_step (f : Int → Int → Int) (X Y : List Int) (i : Nat) (x y : Int) (h : X.length = Y.length) (hx : X[i]? = some x) (hy : Y[i]? = some y) : (mixL f X Y i).set i (f x y) = mixL f X Y (i + 1) := by
  have hi : i < X.length := by
    rcases Nat.lt_or_ge i X.length with h1 | h1
    · exact h1
    · rw [List.getElem?_eq_none h1] at hx; cases hx
  have hl : (List.zipWith f (X.take i) (Y.take i)).length = i := by simp; omega
  have hd : X.drop i = x :: X.drop (i + 1) := by
    rw [List.drop_eq_getElem_cons hi]
    congr 1
    rw [List.getElem?_eq_getElem hi] at hx; exact Option.some.inj hx
  rw [mixL, List.set_append_right _ _ (by omega), hl, Nat.sub_self, hd, List.set_cons_zero, mixL, List.take_add_one, List.take_add_one, hx, hy]
  rw [List.zipWith_append (by simp; omega)]
  simp
theorem mix_zero (f : Int → Int → Int) (X Y : List Int) (d : Nat) (hf : ∀ x, f x 0 = x) (h : X.length = Y.length) (hY : Y.take d = List.replicate d 0) : mixL f X Y d = X := by
  have hd : d ≤ Y.length := by
    have := congrArg List.length hY
    simp only [List.length_take, List.length_replicate] at this
    omega
  rw [mixL, hY]
  have : List.zipWith f (X.take d) (List.replicate d 0) = X.take d := by
    apply List.ext_getElem?
    intro j
    rw [List.getElem?_zipWith]
    by_cases hj : j < d
    · rw [List.getElem?_take, if_pos hj, List.getElem?_replicate, if_pos hj, List.getElem?_eq_getElem (by omega)]
      simp [hf]
    · rw [List.getElem?_take, if_neg hj]
  rw [this, List.take_append_drop]
theorem mix_all (f : Int → Int → Int) (X Y : List Int) (k : Nat) (hX : X.length = k) (hY : Y.length = k) : mixL f X Y k = List.zipWith f X Y := by
  rw [mixL, List.take_of_length_le (by omega), List.take_of_length_le (by omega), List.drop_of_length_le (by omega), List.append_nil]
theorem cols_range (k n : Nat) (x : Int) (h : x ∈ cols k n) : 0 ≤ x ∧ x < 10000 := cols_gs k n x h
theorem cols_take (k n L : Nat) (hL : L = (grp n).length) : (cols k n).take (k - L) = List.replicate (k - L) 0 := by
  rw [cols, ← hL, List.take_append_of_le_length (by simp), List.take_of_length_le (by simp)]
theorem cols_at (k n L j : Nat) (x : Int) (hL : L = (grp n).length) (hx : (grp n)[j]? = some x) : (cols k n)[k - L + j]? = some x := by
  rw [cols, ← hL, List.getElem?_append_right (by simp)]
  simpa using hx
theorem cols_len' (k n L : Nat) (hL : L = (grp n).length) (hk : L ≤ k) : (cols k n).length = k := cols_len k n ((grp_len n k).1 (by omega))
theorem mem_zip (f : Int → Int → Int) : ∀ (X Y : List Int) (c : Int), c ∈ List.zipWith f X Y → ∃ x ∈ X, ∃ y ∈ Y, c = f x y
  | [], _, c, h => by simp at h
  | _ :: _, [], c, h => by simp at h
  | x :: X, y :: Y, c, h => by
    rw [List.zipWith_cons_cons, List.mem_cons] at h
    rcases h with h | h
    · exact ⟨x, by simp, y, by simp, h⟩
    · obtain ⟨x', hx, y', hy, e⟩ := mem_zip f X Y c h
      exact ⟨x', by simp [hx], y', by simp [hy], e⟩

set_option maxRecDepth 100000 in
set_option maxHeartbeats 4000000 in
theorem plus_any (A1 A2 : Option Addr) (L1 c1 n1 L2 c2 n2 : Nat) (m1 : L1 ≤ 900) (m2 : L2 ≤ 900) (w : World) (h1 : Nt w w.heap.size A1 L1 c1 n1) (h2 : Nt w w.heap.size A2 L2 c2 n2) :
    Calls Tryz.prog 103 #[.slice A1 L1 c1, .slice A2 L2 c2] w fun e w' => ∃ A L c, e = .returned (.slice A L c) ∧ Nt w' w'.heap.size A L c (n1 + n2) ∧ Below w.heap.size w w' := by
  obtain ⟨k, hk⟩ : ∃ k, k = max L1 L2 + 1 := ⟨_, rfl⟩
  obtain ⟨M, hM⟩ : ∃ M, M = max L1 L2 := ⟨_, rfl⟩
  have cC := columns_any A1 L1 c1 n1 k (by omega) (by omega) w h1
  have H1 := Lib.hid h1; have H2 := Lib.hid h2; have LL1 := Lib.hid h1.len; have LL2 := Lib.hid h2.len
  have eM : ∀ (ts : Array TypeId) (t : TypeId) (W : World), (Builtin.max_ ts t #[.int .i64 (L1 : Int), .int .i64 (L2 : Int)]).run Tryz.prog W = .ok (.int .i64 (M : Int)) W := by
    intro ts t W
    rw [run_max_int2, show (if (L2 : Int) > (L1 : Int) then (L2 : Int) else (L1 : Int)) = (M : Int) by split <;> omega]
  have ek : (M : Int) + 1 = (k : Int) := by omega
  have hkb : (k : Int) ≤ 901 := by omega
  have h12 : L2 < k := by omega
  have HK := Lib.hid hk; have HM := Lib.hid hM
  clear hk hM h1 h2
  have hM9 : (M : Int) ≤ 900 := by omega
  go_enter Tryz.func103, Tryz.ntmps103
  go_wp2_with (first | (go_at_call 129; (refine cC.mono ?_); rintro e w' ⟨rfl, hrow, hb⟩) | fail)
  have HR := Lib.hid hrow; have HB := Lib.hid hb
  have lc1 := cols_len' k n1 L1 LL1.out (by have := HK.out; omega)
  have lc2 := cols_len' k n2 L2 LL2.out (by omega)
  obtain ⟨X, hX⟩ : ∃ X, X = cols k n1 := ⟨_, rfl⟩
  obtain ⟨Y, hY⟩ : ∃ Y, Y = cols k n2 := ⟨_, rfl⟩
  rw [← hX] at lc1 HR
  rw [← hY] at lc2
  obtain ⟨d, hd⟩ : ∃ d, d = k - L2 := ⟨_, rfl⟩
  have ed : IntKind.i64.wrap ((k : Int) - (L2 : Int)) = (d : Int) := by rw [IntWalk.i64_in _ (by omega)]; omega
  have hdk : d + L2 = k := by omega
  have HX := Lib.hid hX; have HY := Lib.hid hY; have HD := Lib.hid hd; have C1 := Lib.hid lc1; have C2 := Lib.hid lc2; have HDK := Lib.hid hdk
  clear hrow hb lc1 lc2 hX hY hd hdk ek h12 eM
  go_loopw [6, 7, 18] (fun _ _ p wr => ∃ j : Nat, p = .int .i64 j ∧ j ≤ L2 ∧ IRow wr w.heap.size (mixL (· + ·) X Y (d + j)) ∧ Below w.heap.size w wr) (fun _ _ p _ => L2 - (intOf p).toNat)
  case atStart =>
    refine ⟨0, rfl, by omega, ?_, HB.out⟩
    rw [Nat.add_zero, mix_zero _ _ _ _ (fun x => Int.add_zero x) (by rw [C1.out, C2.out]) (by rw [HY.out, HD.out]; exact cols_take k n2 L2 LL2.out)]
    exact HR.out
  case round =>
    obtain ⟨j, rfl, hj, hrow, hbr⟩ := hrel
    by_cases hlt : j < L2
    · obtain ⟨y, hy⟩ : ∃ y, (grp n2)[j]? = some y := ⟨_, List.getElem?_eq_getElem (by rw [← LL2.out]; exact hlt)⟩
      obtain ⟨q, hq⟩ : ∃ q, q = d + j := ⟨_, rfl⟩
      have hyY : Y[q]? = some y := by rw [HY.out, hq, HD.out]; exact cols_at k n2 L2 j y LL2.out hy
      have hqk : q < k := by have := HDK.out; omega
      obtain ⟨x, hx⟩ : ∃ x, X[q]? = some x := ⟨_, List.getElem?_eq_getElem (by rw [C1.out]; exact hqk)⟩
      have hm := mix_at (· + ·) X Y q (by rw [C1.out, C2.out]) (by rw [C1.out]; exact hqk)
      rw [← hq] at hrow
      have hc := hrow.at (hm.trans hx)
      have hf := hrow.frees q
      have xb := cols_range k n1 x (by rw [← HX.out]; exact List.mem_of_getElem? hx)
      have yb := gs_grp n2 y (List.mem_of_getElem? hy)
      have eq : IntKind.i64.wrap ((d : Int) + (j : Int)) = (q : Int) := by rw [IntWalk.i64_in _ (by omega)]; omega
      have es : IntKind.i64.wrap (x + y) = x + y := by rw [IntWalk.i64_in _ (by omega)]
      have hset := mix_step (· + ·) X Y q x y (by rw [C1.out, C2.out]) hx hyY
      have q0 : (0 : Int) ≤ (q : Int) := by omega
      have q1 : (q : Int) < (k : Int) := by omega
      have j1 : (j : Int) < (L2 : Int) := by omega
      have hA2 := H2.out.ints
      rcases hA2 with hn | ⟨b, o, rfl, hbB, hcell⟩
      · rw [hn] at hy; simp at hy
      · have hcy := (hbr.cell (p := ⟨b, o + j, none⟩) hbB).trans (hcell j y hy)
        have HRW := Lib.hid hrow; have HBR := Lib.hid hbr; have HS := Lib.hid hset; have HQ := Lib.hid hq
        clear hrow hbr hset hq hy hyY hx hm hcell
        go_wp2
        go_roundw
        case rel =>
          refine ⟨j + 1, by go_num, by omega, ?_, HBR.out.setCell (p := ⟨w.heap.size, q, none⟩) (Nat.le_refl _) _⟩
          rw [show d + (j + 1) = q + 1 by rw [HQ.out]; omega, ← HS.out]
          exact HRW.out.stored q (x + y)
        case measure => simp [intOf]; omega
    · obtain rfl : j = L2 := by omega
      rw [HDK.out, mix_all _ _ _ k C1.out C2.out] at hrow
      have hgv : gv (List.zipWith (· + ·) X Y) = ((n1 + n2 : Nat) : Int) := by
        rw [gv_add _ _ (by rw [C1.out, C2.out]), HX.out, HY.out, cols_gv, cols_gv]; omega
      have hlen : k = (List.zipWith (· + ·) X Y).length := by rw [List.length_zipWith, C1.out, C2.out, Nat.min_self]
      have hlt1 : ((n1 + n2 : Nat) : Int) < 10000 ^ k := by
        have a1 : n1 < 10000 ^ (k - 1) := (grp_len n1 (k - 1)).1 (by rw [← LL1.out]; have := HK.out; omega)
        have a2 : n2 < 10000 ^ (k - 1) := (grp_len n2 (k - 1)).1 (by rw [← LL2.out]; have := HK.out; omega)
        have e : 10000 ^ k = 10000 ^ (k - 1) * 10000 := by rw [← Nat.pow_succ]; congr 1; have := HK.out; omega
        have : n1 + n2 < 10000 ^ k := by rw [e]; omega
        exact_mod_cast this
      have cR := carry_any w.heap.size k _ hlen (by have := HK.out; omega) (by
        intro c hc
        obtain ⟨x, hx, y, hy, rfl⟩ := mem_zip _ _ _ _ hc
        have a1 := cols_range k n1 x (by rw [← HX.out]; exact hx)
        have a2 := cols_range k n2 y (by rw [← HY.out]; exact hy)
        omega) (by rw [hgv]; omega) (by rw [hgv]; exact hlt1) wr hrow
      rw [hgv, Int.toNat_natCast] at cR
      have HBR := Lib.hid hbr; have HRW := Lib.hid hrow.lies
      clear hgv hlen hlt1 hrow hbr
      go_wp2_with (first | (go_at_call 130; (refine cR.mono ?_); rintro e w' ⟨A, L, c, rfl, hN, hb⟩) | fail)
      go_ret
      exact ⟨A, L, c, rfl, hN.more (Nat.lt_of_lt_of_le HRW.out hb.size), HBR.out.trans hb⟩
set_option maxRecDepth 100000 in
set_option maxHeartbeats 4000000 in
theorem minus_any (A1 A2 : Option Addr) (L1 c1 n1 L2 c2 n2 : Nat) (m1 : L1 ≤ 900) (m2 : L2 ≤ 900) (hle : n2 ≤ n1) (w : World) (h1 : Nt w w.heap.size A1 L1 c1 n1) (h2 : Nt w w.heap.size A2 L2 c2 n2) :
    Calls Tryz.prog 104 #[.slice A1 L1 c1, .slice A2 L2 c2] w fun e w' => ∃ A L c, e = .returned (.slice A L c) ∧ Nt w' w'.heap.size A L c (n1 - n2) ∧ Below w.heap.size w w' := by
  have hLL : L2 ≤ L1 := by
    rw [h2.len]
    exact (grp_len n2 L1).2 (Nat.lt_of_le_of_lt hle ((grp_len n1 L1).1 (by rw [h1.len]; exact Nat.le_refl _)))
  obtain ⟨k, hk⟩ : ∃ k, k = L1 := ⟨_, rfl⟩
  rw [← hk] at h1 m1 hLL
  have cC := columns_any A1 k c1 n1 k (Nat.le_refl _) (by omega) w h1
  have H1 := Lib.hid h1; have H2 := Lib.hid h2; have LL1 := Lib.hid h1.len; have LL2 := Lib.hid h2.len
  rw [← hk]
  have h12 : L2 ≤ k := hLL
  clear hk h1 h2 hLL
  go_enter Tryz.func104, Tryz.ntmps104
  go_wp2_with (first | (go_at_call 129; (refine cC.mono ?_); rintro e w' ⟨rfl, hrow, hb⟩) | fail)
  have HR := Lib.hid hrow; have HB := Lib.hid hb
  have lc1 := cols_len' k n1 k LL1.out (Nat.le_refl _)
  have lc2 := cols_len' k n2 L2 LL2.out h12
  obtain ⟨X, hX⟩ : ∃ X, X = cols k n1 := ⟨_, rfl⟩
  obtain ⟨Y, hY⟩ : ∃ Y, Y = cols k n2 := ⟨_, rfl⟩
  rw [← hX] at lc1 HR
  rw [← hY] at lc2
  obtain ⟨d, hd⟩ : ∃ d, d = k - L2 := ⟨_, rfl⟩
  have ed : IntKind.i64.wrap ((k : Int) - (L2 : Int)) = (d : Int) := by rw [IntWalk.i64_in _ (by omega)]; omega
  have hdk : d + L2 = k := by omega
  have HX := Lib.hid hX; have HY := Lib.hid hY; have HD := Lib.hid hd; have C1 := Lib.hid lc1; have C2 := Lib.hid lc2; have HDK := Lib.hid hdk
  clear hrow hb lc1 lc2 hX hY hd hdk h12
  go_loopw [6, 7, 14] (fun _ _ p wr => ∃ j : Nat, p = .int .i64 j ∧ j ≤ L2 ∧ IRow wr w.heap.size (mixL (· - ·) X Y (d + j)) ∧ Below w.heap.size w wr) (fun _ _ p _ => L2 - (intOf p).toNat)
  case atStart =>
    refine ⟨0, rfl, by omega, ?_, HB.out⟩
    rw [Nat.add_zero, mix_zero _ _ _ _ (fun x => Int.sub_zero x) (by rw [C1.out, C2.out]) (by rw [HY.out, HD.out]; exact cols_take k n2 L2 LL2.out)]
    exact HR.out
  case round =>
    obtain ⟨j, rfl, hj, hrow, hbr⟩ := hrel
    by_cases hlt : j < L2
    · obtain ⟨y, hy⟩ : ∃ y, (grp n2)[j]? = some y := ⟨_, List.getElem?_eq_getElem (by rw [← LL2.out]; exact hlt)⟩
      obtain ⟨q, hq⟩ : ∃ q, q = d + j := ⟨_, rfl⟩
      have hyY : Y[q]? = some y := by rw [HY.out, hq, HD.out]; exact cols_at k n2 L2 j y LL2.out hy
      have hqk : q < k := by have := HDK.out; omega
      obtain ⟨x, hx⟩ : ∃ x, X[q]? = some x := ⟨_, List.getElem?_eq_getElem (by rw [C1.out]; exact hqk)⟩
      have hm := mix_at (· - ·) X Y q (by rw [C1.out, C2.out]) (by rw [C1.out]; exact hqk)
      rw [← hq] at hrow
      have hc := hrow.at (hm.trans hx)
      have hf := hrow.frees q
      have xb := cols_range k n1 x (by rw [← HX.out]; exact List.mem_of_getElem? hx)
      have yb := gs_grp n2 y (List.mem_of_getElem? hy)
      have eq : IntKind.i64.wrap ((d : Int) + (j : Int)) = (q : Int) := by rw [IntWalk.i64_in _ (by omega)]; omega
      have es : IntKind.i64.wrap (x - y) = x - y := by rw [IntWalk.i64_in _ (by omega)]
      have hset := mix_step (· - ·) X Y q x y (by rw [C1.out, C2.out]) hx hyY
      have q0 : (0 : Int) ≤ (q : Int) := by omega
      have q1 : (q : Int) < (k : Int) := by omega
      have j1 : (j : Int) < (L2 : Int) := by omega
      have hA2 := H2.out.ints
      rcases hA2 with hn | ⟨b, o, rfl, hbB, hcell⟩
      · rw [hn] at hy; simp at hy
      · have hcy := (hbr.cell (p := ⟨b, o + j, none⟩) hbB).trans (hcell j y hy)
        have HRW := Lib.hid hrow; have HBR := Lib.hid hbr; have HS := Lib.hid hset; have HQ := Lib.hid hq
        clear hrow hbr hset hq hy hyY hx hm hcell
        go_wp2
        go_roundw
        case rel =>
          refine ⟨j + 1, by go_num, by omega, ?_, HBR.out.setCell (p := ⟨w.heap.size, q, none⟩) (Nat.le_refl _) _⟩
          rw [show d + (j + 1) = q + 1 by rw [HQ.out]; omega, ← HS.out]
          exact HRW.out.stored q (x - y)
        case measure => simp [intOf]; omega
    · obtain rfl : j = L2 := by omega
      rw [HDK.out, mix_all _ _ _ k C1.out C2.out] at hrow
      have hgv : gv (List.zipWith (· - ·) X Y) = ((n1 - n2 : Nat) : Int) := by
        rw [gv_sub _ _ (by rw [C1.out, C2.out]), HX.out, HY.out, cols_gv, cols_gv]; omega
      have hlen : k = (List.zipWith (· - ·) X Y).length := by rw [List.length_zipWith, C1.out, C2.out, Nat.min_self]
      have hlt1 : ((n1 - n2 : Nat) : Int) < 10000 ^ k := by
        have a1 : n1 < 10000 ^ k := (grp_len n1 k).1 (by rw [← LL1.out]; exact Nat.le_refl _)
        have : n1 - n2 < 10000 ^ k := by omega
        exact_mod_cast this
      have cR := carry_any w.heap.size k _ hlen (by omega) (by
        intro c hc
        obtain ⟨x, hx, y, hy, rfl⟩ := mem_zip _ _ _ _ hc
        have a1 := cols_range k n1 x (by rw [← HX.out]; exact hx)
        have a2 := cols_range k n2 y (by rw [← HY.out]; exact hy)
        omega) (by rw [hgv]; omega) (by rw [hgv]; exact hlt1) wr hrow
      rw [hgv, Int.toNat_natCast] at cR
      have HBR := Lib.hid hbr; have HRW := Lib.hid hrow.lies
      clear hgv hlen hlt1 hrow hbr
      go_wp2_with (first | (go_at_call 130; (refine cR.mono ?_); rintro e w' ⟨A, L, c, rfl, hN, hb⟩) | fail)
      go_ret
      exact ⟨A, L, c, rfl, hN.more (Nat.lt_of_lt_of_le HRW.out hb.size), HBR.out.trans hb⟩

theorem mapL_step (by' : Int) (X : List Int) (i : Nat) (x : Int) (hx : X[i]? = some x) : ((X.take i).map (· * by') ++ X.drop i).set i (x * by') = (X.take (i + 1)).map (· * by') ++ X.drop (i + 1) := by
  have hi : i < X.length := by
    rcases Nat.lt_or_ge i X.length with h1 | h1
    · exact h1
    · rw [List.getElem?_eq_none h1] at hx; cases hx
  have hl : ((X.take i).map (· * by')).length = i := by simp; omega
  have hd : X.drop i = x :: X.drop (i + 1) := by
    rw [List.drop_eq_getElem_cons hi]
    congr 1
    rw [List.getElem?_eq_getElem hi] at hx; exact Option.some.inj hx
  rw [List.set_append_right _ _ (by omega), hl, Nat.sub_self, hd, List.set_cons_zero, List.take_add_one, hx, List.map_append]
  simp
theorem mapL_at (by' : Int) (X : List Int) (i : Nat) (hi : i < X.length) : ((X.take i).map (· * by') ++ X.drop i)[i]? = X[i]? := by
  have hl : ((X.take i).map (· * by')).length = i := by simp; omega
  rw [List.getElem?_append_right (by omega), hl, Nat.sub_self, List.getElem?_drop]; simp

set_option maxRecDepth 100000 in
set_option maxHeartbeats 4000000 in
theorem scale_any (A1 : Option Addr) (L1 c1 n1 b : Nat) (m1 : L1 ≤ 900) (hb : b < 10000) (w : World) (h1 : Nt w w.heap.size A1 L1 c1 n1) :
    Calls Tryz.prog 128 #[.slice A1 L1 c1, .int .i64 (b : Int)] w fun e w' => ∃ A L c, e = .returned (.slice A L c) ∧ Nt w' w'.heap.size A L c (n1 * b) ∧ Below w.heap.size w w' := by
  obtain ⟨k, hk⟩ : ∃ k, k = L1 + 1 := ⟨_, rfl⟩
  have cC := columns_any A1 L1 c1 n1 k (by omega) (by omega) w h1
  have H1 := Lib.hid h1; have LL1 := Lib.hid h1.len
  have ek : IntKind.i64.wrap ((L1 : Int) + 1) = (k : Int) := by rw [IntWalk.i64_in _ (by omega)]; omega
  have ek2 : (L1 : Int) + 1 = (k : Int) := by omega
  have hkb : k ≤ 901 := by omega
  have HK := Lib.hid hk
  clear hk h1
  go_enter Tryz.func128, Tryz.ntmps128
  go_wp2_with (first | (go_at_call 129; (refine cC.mono ?_); rintro e w' ⟨rfl, hrow, hbl⟩) | fail)
  have HR := Lib.hid hrow; have HB := Lib.hid hbl
  have lc1 := cols_len' k n1 L1 LL1.out (by have := HK.out; omega)
  obtain ⟨X, hX⟩ : ∃ X, X = cols k n1 := ⟨_, rfl⟩
  rw [← hX] at lc1 HR
  have HX := Lib.hid hX; have C1 := Lib.hid lc1
  clear hrow hbl lc1 hX ek ek2
  go_loopw [6, 14] (fun _ p wr => ∃ j : Nat, p = .int .i64 j ∧ j ≤ k ∧ IRow wr w.heap.size ((X.take j).map (· * (b : Int)) ++ X.drop j) ∧ Below w.heap.size w wr) (fun _ p _ => k - (intOf p).toNat)
  case atStart => exact ⟨0, rfl, by omega, by simpa using HR.out, HB.out⟩
  case round =>
    obtain ⟨j, rfl, hj, hrow, hbr⟩ := hrel
    by_cases hlt : j < k
    · obtain ⟨x, hx⟩ : ∃ x, X[j]? = some x := ⟨_, List.getElem?_eq_getElem (by rw [C1.out]; exact hlt)⟩
      have hm := mapL_at (b : Int) X j (by rw [C1.out]; exact hlt)
      have hc := hrow.at (hm.trans hx)
      have hf := hrow.frees j
      have xb := cols_range k n1 x (by rw [← HX.out]; exact List.mem_of_getElem? hx)
      obtain ⟨y, hy⟩ : ∃ y, y = x * (b : Int) := ⟨_, rfl⟩
      have yb : 0 ≤ y ∧ y ≤ 99980001 := by
        rw [hy]
        exact ⟨Int.mul_nonneg xb.1 (by omega), Int.le_trans (Int.mul_le_mul (show x ≤ 9999 by omega) (show (b : Int) ≤ 9999 by omega) (by omega) (by omega)) (by omega)⟩
      have ey : x * (b : Int) = y := hy.symm
      have wy : IntKind.i64.wrap y = y := by rw [IntWalk.i64_in _ (by omega)]
      have hset := mapL_step (b : Int) X j x hx
      rw [← hy] at hset
      have j1 : (j : Int) < (k : Int) := by omega
      have HRW := Lib.hid hrow; have HBR := Lib.hid hbr; have HS := Lib.hid hset
      clear hrow hbr hset hx hm hy
      go_wp2
      go_roundw
      case rel =>
        refine ⟨j + 1, by go_num, by omega, ?_, HBR.out.setCell (p := ⟨w.heap.size, j, none⟩) (Nat.le_refl _) _⟩
        rw [← HS.out]
        exact HRW.out.stored j y
      case measure => simp [intOf]; omega
    · obtain rfl : j = k := by omega
      rw [List.take_of_length_le (by rw [C1.out]; exact Nat.le_refl _), List.drop_of_length_le (by rw [C1.out]; exact Nat.le_refl _), List.append_nil] at hrow
      have hgv : gv (X.map (· * (b : Int))) = ((n1 * b : Nat) : Int) := by
        rw [gv_mul, HX.out, cols_gv]; simp
      have hlen : j = (X.map (· * (b : Int))).length := by rw [List.length_map, C1.out]
      have hlt1 : ((n1 * b : Nat) : Int) < 10000 ^ j := by
        have a1 : n1 < 10000 ^ (j - 1) := (grp_len n1 (j - 1)).1 (by rw [← LL1.out]; have := HK.out; omega)
        have e : 10000 ^ j = 10000 ^ (j - 1) * 10000 := by rw [← Nat.pow_succ]; congr 1; have := HK.out; omega
        have : n1 * b < 10000 ^ j := by
          rw [e]
          exact Nat.lt_of_le_of_lt (Nat.mul_le_mul_left n1 (show b ≤ 10000 by omega)) (Nat.mul_lt_mul_of_pos_right a1 (by decide))
        exact_mod_cast this
      have cR := carry_any w.heap.size j _ hlen (by omega) (by
        intro c hc
        obtain ⟨x, hx, rfl⟩ := List.mem_map.1 hc
        have a1 := cols_range j n1 x (by rw [← HX.out]; exact hx)
        have a2 := Int.mul_nonneg a1.1 (show (0 : Int) ≤ (b : Int) by omega)
        have a3 := Int.mul_le_mul (show x ≤ 9999 by omega) (show (b : Int) ≤ 9999 by omega) (by omega) (by omega)
        omega) (by rw [hgv]; omega) (by rw [hgv]; exact hlt1) wr hrow
      rw [hgv, Int.toNat_natCast] at cR
      have HBR := Lib.hid hbr; have HRW := Lib.hid hrow.lies
      clear hgv hlen hlt1 hrow hbr
      go_wp2_with (first | (go_at_call 130; (refine cR.mono ?_); rintro e w' ⟨A, L, c, rfl, hN, hb⟩) | fail)
      go_ret
      exact ⟨A, L, c, rfl, hN.more (Nat.lt_of_lt_of_le HRW.out hb.size), HBR.out.trans hb⟩
end Go.Proofs.YtgpncnnlhhmjaaaGreatDoor
