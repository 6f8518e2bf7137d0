/- slices.Delete and slices.Clone at findings. -/
import Derived.Test.YtiglkecmamnphaaFs
import Derived.Shelf.RegionOpenPlain
import Derived.Deep.RegionLaw
import Derived.Lib.SliceRun
namespace Go.Proofs.Ytiglkecmamnphaa
open Go.RowKit Go.Sort Go.Lib Go.Maps

theorem row_mid : ∀ (vs pre old post : List Value) (W : World) (g : Nat) (t : TypeId), old.length = vs.length → Row W g t (pre ++ old ++ post).toArray → Row (W.setCells g pre.length vs) g t (pre ++ vs ++ post).toArray
  | [], pre, [], post, _, _, _, _, h => h
  | v :: vs, pre, x :: old, post, W, g, t, hl, h => by
    have h1 := h.stored pre.length v
    have e1 : ((pre ++ x :: old ++ post).toArray.setIfInBounds pre.length v) = ((pre ++ [v]) ++ old ++ post).toArray := by simp
    rw [e1] at h1
    have h2 := row_mid vs (pre ++ [v]) old post _ g t (by simpa using hl) h1
    rw [List.length_append] at h2
    have e2 : pre ++ [v] ++ vs ++ post = pre ++ v :: vs ++ post := by simp
    rw [e2] at h2
    exact h2
theorem grown_cells : ∀ (vs : List Value) (o : Nat) (W : World) (g : Nat), W.grownBy (W.setCells g o vs) (some g)
  | [], _, W, g => grown_refl W _
  | v :: vs, o, W, g => grown_next (grown_set W g o v) (grown_cells vs (o + 1) _ g)
theorem flatF_append (l m : List Fd) : flatF (l ++ m) = flatF l ++ flatF m := by simp [flatF]
abbrev zero4 : List Value := [.int .i64 0, .bool false, .int .i64 0, .int .i64 0]
theorem run_clear4 (w : World) (ty : TypeId) (g o c : Nat) (hc : ∀ j, j < 4 → (w.cell? ⟨g, o + j, none⟩).isSome = true) (hf : ∀ j, j < 4 → w.frozen? ⟨g, o + j, none⟩ = false) :
    (Builtin.clear_ #[28] ty #[.slice (some ⟨g, o, none⟩) 1 c]).run Try.prog w = .ok (.tuple #[]) (w.setCells g o zero4) := by
  have hst := run_storeCells_cells (P := Try.prog) g o zero4 0 w (by simpa using hc) (by simpa using hf) (by intro v hv; simp at hv; rcases hv with rfl | rfl | rfl | rfl <;> rfl)
  simp only [Nat.add_zero] at hst
  have hzc : (Builtin.zeroCells (Value.agg #[.int .i64 0, .bool false, .int .i64 0, .int .i64 0]).cells 1).toList = zero4 := by kernel_rfl
  simp [Builtin.clear_, run_underlying Try.underlying28, zeroF, hzc, hst]

set_option maxRecDepth 1000000 in
set_option maxHeartbeats 8000000 in
theorem delete_any (base g cap i : Nat) (l : List Fd) (w : World) (ho : w.ownsRow base 63 4 (.slice (some ⟨g, 0, none⟩) l.length cap) l.length (flatF l)) (hi : i + 1 < l.length) (h20 : l.length ≤ 20) :
    Calls Try.prog 43 #[.slice (some ⟨g, 0, none⟩) l.length cap, .int .i64 (i : Int), .int .i64 ((i : Int) + 1)] w fun e w' => e = .returned (.slice (some ⟨g, 0, none⟩) (l.length - 1) cap) ∧ w'.ownsRow base 63 4 (.slice (some ⟨g, 0, none⟩) (l.length - 1) cap) (l.length - 1) (flatF (l.take i ++ l.drop (i + 1))) ∧ w.grownBy w' (some g) := by
  obtain ⟨i0, hi0, hz0, hz1, hz2⟩ := info_parts fd_info
  rcases ho.2 with ⟨h0, _⟩ | ⟨g', cap', cur, hv, hbase, hg, hnc, hcm, hcs, htk⟩
  · cases h0
  obtain ⟨rfl, rfl⟩ : g = g' ∧ cap = cap' := by simpa using hv
  obtain ⟨x, hx⟩ : ∃ y, l[i]? = some y := at_lt (by omega)
  obtain ⟨hx1, hx2⟩ := List.getElem?_eq_some_iff.1 hx
  obtain ⟨n, hn⟩ : ∃ n, n = l.length := ⟨_, rfl⟩
  -- the parts of the row
  obtain ⟨pre, hpre⟩ : ∃ p, p = flatF (l.take i) := ⟨_, rfl⟩
  obtain ⟨news, hnews⟩ : ∃ p, p = flatF (l.drop (i + 1)) := ⟨_, rfl⟩
  obtain ⟨rest, hrest⟩ : ∃ p, p = cur.toList.drop (n * 4) := ⟨_, rfl⟩
  have hpl : pre.length = i * 4 := by rw [hpre, flatF_len, List.length_take]; omega
  have hnl : news.length = (n - (i + 1)) * 4 := by rw [hnews, flatF_len, List.length_drop, ← hn]
  have hl : flatF l = pre ++ (fdC x).toList ++ news := by
    rw [hpre, hnews]
    have e1 : l = l.take i ++ [x] ++ l.drop (i + 1) := by
      have := (List.take_append_drop i l).symm
      rw [List.drop_eq_getElem_cons hx1, hx2] at this
      simpa using this
    have e2 := congrArg flatF e1
    rw [flatF_append, flatF_append] at e2
    rw [e2]
    simp [flatF]
  have hmid : ∃ old last, (fdC x).toList ++ news = old ++ last ∧ old.length = news.length ∧ last.length = 4 := by
    refine ⟨((fdC x).toList ++ news).take news.length, ((fdC x).toList ++ news).drop news.length, (List.take_append_drop _ _).symm, ?_, ?_⟩
    · rw [List.length_take, List.length_append]; omega
    · rw [List.length_drop, List.length_append]; simp [fdC]
  obtain ⟨old, last, hol, hol1, hol2⟩ := hmid
  have hcur : cur.toList = pre ++ old ++ (last ++ rest) := by
    have h1 := (List.take_append_drop (n * 4) cur.toList).symm
    rw [← hn] at htk
    rw [htk, hl, ← hrest, List.append_assoc pre, hol] at h1
    rw [h1]
    simp
  have hrow : Row w g 63 (pre ++ old ++ (last ++ rest)).toArray := by
    rw [← hcur]
    exact hg
  have hrow1 := row_mid news pre old (last ++ rest) w.drew g _ hol1 hrow
  rw [hpl] at hrow1
  obtain ⟨W1, hW1⟩ : ∃ W1, W1 = w.drew.setCells g (0 + i * 4) news := ⟨_, rfl⟩
  have hgw1 : w.grownBy W1 (some g) := by
    rw [hW1]
    have g0 : w.grownBy w.drew (some g) := ⟨rfl, rfl, rfl, Nat.le_refl _, fun _ _ _ => rfl⟩
    exact grown_next g0 (grown_cells news _ w.drew g)
  rw [show i * 4 = 0 + i * 4 by omega, ← hW1] at hrow1
  have hrow1' : Row W1 g 63 ((pre ++ news) ++ last ++ rest).toArray := by simpa using hrow1
  have hrow2 := row_mid zero4 (pre ++ news) last rest W1 g _ (by rw [hol2]; rfl) hrow1'
  have hpn : (pre ++ news).length = (n - 1) * 4 := by rw [List.length_append, hpl, hnl]; omega
  rw [hpn] at hrow2
  have hcl : ∀ ty c, (Builtin.clear_ #[28] ty #[.slice (some ⟨g, (n - 1) * 4, none⟩) 1 c]).run Try.prog W1 = .ok (.tuple #[]) (W1.setCells g ((n - 1) * 4) zero4) := fun ty c => run_clear4 W1 ty g _ c (fun j hj => by
      have hlt : (n - 1) * 4 + j < ((pre ++ news) ++ last ++ rest).length := by rw [List.length_append, List.length_append, hpn, hol2]; omega
      rw [hrow1'.at (i := (n - 1) * 4 + j) (v := ((pre ++ news) ++ last ++ rest)[(n - 1) * 4 + j]) (by simp [hlt])]
      rfl) (fun j _ => hrow1'.free _)
  have hsrc : ∀ t u, news[t]? = some u → w.drew.cell? ((⟨g, (i + 1) * 4, none⟩ : Addr).add t) = some u := fun t u hu => by
    have hrow' : Row w.drew g 63 (pre ++ (fdC x).toList ++ news ++ rest).toArray := by
      have : pre ++ (fdC x).toList ++ news ++ rest = pre ++ old ++ (last ++ rest) := by rw [List.append_assoc pre, hol]; simp
      rw [this]
      exact hrow
    have h4 : (pre ++ (fdC x).toList).length = (i + 1) * 4 := by rw [List.length_append, hpl]; simp [fdC]; omega
    have h5 := hrow'.at (i := (i + 1) * 4 + t) (v := u) (by
      rw [List.getElem?_toArray, List.append_assoc (pre ++ _), List.getElem?_append_right (by omega), h4, Nat.add_sub_cancel_left, List.getElem?_append_left (by
        obtain ⟨hh, _⟩ := List.getElem?_eq_some_iff.1 hu
        exact hh)]
      exact hu)
    cases t with
    | zero => exact h5
    | succ t => simpa [Addr.add] using h5
  have hone : ∀ u ∈ news, u.oneCell' = true := fun u hu => by
    rw [hnews] at hu
    obtain ⟨f, _, hf⟩ := List.mem_flatMap.1 hu
    exact fd_one f u hf
  have hspare : ∀ j, j < news.length → (w.drew.cell? ⟨g, 0 + i * 4 + j, none⟩).isSome = true ∧ w.drew.frozen? ⟨g, 0 + i * 4 + j, none⟩ = false := fun j hj => by
    have hlt : 0 + i * 4 + j < (pre ++ old ++ (last ++ rest)).length := by rw [List.length_append, List.length_append, hpl, hol1]; omega
    have hd : Row w.drew g 63 (pre ++ old ++ (last ++ rest)).toArray := hrow
    refine ⟨?_, hd.free _⟩
    have h5 := hd.at (i := 0 + i * 4 + j) (v := (pre ++ old ++ (last ++ rest))[0 + i * 4 + j]) (by simp only [List.getElem?_toArray]; exact List.getElem?_eq_getElem hlt)
    rw [h5]
    rfl
  rw [← hn] at hi h20 hnc ⊢
  have S1 := Lib.hid hnl; have SRC := Lib.hid hsrc; have ONE := Lib.hid hone; have SP := Lib.hid hspare; have R2 := Lib.hid hrow2; have HW := Lib.hid hW1; have HG := Lib.hid hgw1; have HBS := Lib.hid hbase; have HCM := Lib.hid hcm; have HCS := Lib.hid hcs; have HCU := Lib.hid hcur; have HPN := Lib.hid hpn; have HPR := Lib.hid hpre; have HNW := Lib.hid hnews; have HOL := Lib.hid (And.intro hol1 hol2)
  clear ho hnl hsrc hone hspare hrow2 hW1 hgw1 hbase hcm hcs hcur hpn hpre hnews hol1 hol2 hrow hrow1 hrow1' hol hl hpl hrest htk hg hv hx hx1 hx2 hn
  obtain ⟨N, hN⟩ : ∃ N, n = N + 1 := ⟨n - 1, by omega⟩
  subst hN
  simp only [Nat.add_sub_cancel] at hcl R2 HPN ⊢
  replace S1 := Lib.hid (show news.length = (N - i) * 4 by rw [S1.out, Nat.add_sub_add_right])
  have hcj : ¬ cap = i + 1 := by omega
  have h01 : (0 : Int) ≤ (i : Int) + 1 := by omega
  have h02 : (i : Int) + 1 ≤ (N : Int) + 1 := by omega
  have h03 : i ≤ N := by omega
  have hic : i ≤ cap := by omega
  have hjc : i + 1 ≤ cap := by omega
  have hjn : i + 1 ≤ N + 1 := by omega
  have hin : i ≤ N + 1 := by omega
  have mixed : Try.prog.follows .mixedOrders = true := by kernel_rfl
  have hni : ((i : Int) == (i : Int) + 1) = false := by simp; omega
  go_enter Try.func43, Try.ntmps43
  go_upto_region 5 with (fail)
  go_region_law_o (refine step_append_room rfl (.tmp 22) (.tmp 25) 28 rfl 63 i0 4 Try.underlying28 hi0 hz1 g 0 i cap (by simp [Act.eval, Act.put]) ⟨g, (i + 1) * 4, none⟩ (N - i) (cap - (i + 1)) news (by simp [Act.eval, Act.put]) S1.out SRC.out ONE.out (by omega) SP.out ?_; rw [← HW.out])
  have hM : i + (N - i) = N := by omega
  try rw [hM]
  have hM2 : i + (N - i) = N := hM
  have hcl1 := fun ty => hcl ty (cap - N)
  have hNN : N + 1 - N = 1 := by omega
  have hNc : N ≤ cap := by omega
  have hNc1 : N + 1 ≤ cap := by omega
  clear hcl
  go_wp2
  go_ret
  refine ⟨rfl, ⟨by rw [flatF_append, ← HPR.out, ← HNW.out, HPN.out], .inr ⟨g, cap, _, rfl, HBS.out, R2.out, by omega, HCM.out, ?_, ?_⟩⟩, grown_next HG.out (grown_cells _ _ _ _)⟩
  · have h1 := HCS.out
    have h2 := congrArg List.length HCU.out
    rw [Array.length_toList] at h2
    obtain ⟨q1, q2⟩ := HOL.out
    simp only [List.size_toArray, List.length_append] at h2 ⊢
    rw [← h1, h2, q1, q2]
    have : zero4.length = 4 := rfl
    omega
  · have h3 : ((pre ++ news ++ zero4 ++ rest : List Value)).take (N * 4) = pre ++ news := by
      rw [List.append_assoc, List.take_append_of_le_length (by rw [HPN.out]; exact Nat.le_refl _), List.take_of_length_le (by rw [HPN.out]; exact Nat.le_refl _)]
    show ((pre ++ news ++ zero4 ++ rest : List Value)).take (N * 4) = _
    rw [h3, HPR.out, HNW.out, flatF_append]
end Go.Proofs.Ytiglkecmamnphaa
