/- The reference's text: digits are written. -/
import Derived.Test.YtgpncnnlhhmjaaaGreatDoorDlm
namespace Go.Proofs.YtgpncnnlhhmjaaaGreatDoor
open Go.RowKit

/-- Bytes as cells. -/
def bV (l : List UInt8) : List Value := l.map fun x => Value.int .u8 (x.toNat : Int)
theorem bV_snoc (l : List UInt8) (x : UInt8) : bV (l ++ [x]) = bV l ++ [.int .u8 (x.toNat : Int)] := by simp [bV]
theorem own_at {w : World} {B n : Nat} {e : TypeId} {v : Value} {xs : List Value} (h : w.ownsRow B e 1 v n xs) (hn : 0 < n) : ∃ g cap, v = .slice (some ⟨g, 0, none⟩) n cap ∧ ∀ j x, xs[j]? = some x → w.cell? ⟨g, j, none⟩ = some x := by
  rcases h.2 with ⟨_, h0⟩ | ⟨g, cap, cur, rfl, hB, hg, hc, hm, hs, ht⟩
  · omega
  · refine ⟨g, cap, rfl, fun i x hi => ?_⟩
    refine Row.at hg ?_
    rw [← ht, List.getElem?_take] at hi
    split at hi
    · simpa using hi
    · cases hi
/-- 'string(b)' of a row of the call's own. -/
theorem run_string_row (w : World) (base : Nat) (v : Value) (n : Nat) (l : List UInt8) (hn : n = l.length) (h0 : 0 < n) (h : w.ownsRow base 5 1 v n (bV l)) : (convert 48 9 v).run Tryz.prog w = .ok (.string (str l)) w := by
  obtain ⟨g, cap, rfl, hc⟩ := own_at h h0
  rw [run_convert_bytes_string (P := Tryz.prog) w 48 9 5 _ _ _ Tryz.underlying48 Tryz.underlying5 Tryz.underlying9]
  have hl : (loadCells ⟨g, 0, none⟩ n).run Tryz.prog w = .ok ((l.map fun b : UInt8 => (b.toNat : Int)).map (Value.int .u8)).toArray w := by
    have := run_loadCells_list (P := Tryz.prog) w ⟨g, 0, none⟩ ((l.map fun b : UInt8 => (b.toNat : Int)).map (Value.int .u8)) (fun j u hu => by
      rw [add_off, Nat.zero_add]
      refine hc j u ?_
      rw [bV]
      rw [List.map_map] at hu
      exact hu)
    rw [List.length_map, List.length_map, ← hn] at this
    exact this
  rw [run_bytesToString (P := Tryz.prog) w _ n cap _ hl, push_bytes]
  simp [str]
theorem wrt_drop {l : List Nat} {J x : Nat} (h : l[J]? = some x) : wrt (l.drop J) = wrt (l.drop (J + 1)) ++ [UInt8.ofNat (48 + x)] := by
  have hl : J < l.length := by
    rcases Nat.lt_or_ge J l.length with k | k
    · exact k
    · rw [List.getElem?_eq_none k] at h; cases h
  rw [List.drop_eq_getElem_cons hl, wrt_cons]
  rw [List.getElem?_eq_getElem hl] at h
  rw [Option.some.inj h]
theorem wrt_len (l : List Nat) : (wrt l).length = l.length := by simp [wrt]
def pre (b : Bool) : List UInt8 := if b then [45] else []
theorem dec_pre (b : Bool) (n : Nat) (h : 0 < n) : dec (sgn b n) = str (pre b ++ wrt (dg n)) := by rw [dec_sgn b n h, wrt_dg n h]; rfl
theorem byte_snoc (l : List UInt8) (r : List Nat) (J x : Nat) (hx : r[J]? = some x) (h : x < 10) : bV (l ++ wrt (r.drop J)) = bV (l ++ wrt (r.drop (J + 1))) ++ [.int .u8 ((48 + x : Nat) : Int)] := by
  rw [wrt_drop hx, ← List.append_assoc, bV_snoc, ofNat_toNat (by omega)]

set_option maxRecDepth 100000 in
set_option maxHeartbeats 4000000 in
theorem reftext_any (b : Bool) (A : Option Addr) (L c n : Nat) (m : L ≤ 2000) (w : World) (h : Dl w w.heap.size A L c (dg n)) :
    Calls Tryz.prog 68 #[.bool b, .slice A L c] w fun e w' => e = .returned (.tuple #[.string (dec (sgn b n)), .bool (decide (L ≤ 200))]) ∧ Below w.heap.size w w' := by
  obtain ⟨i0, hi, hz0, hz1, hz2⟩ := info_parts byte_info
  have H := Lib.hid h
  by_cases h0 : L = 0
  · have hn : n = 0 := dg_nil.1 (List.eq_nil_of_length_eq_zero (by rw [← h.len]; exact h0))
    subst h0 hn
    rw [dec_sgn0]
    clear h
    go_enter Tryz.func68, Tryz.ntmps68
    go_wp2
    go_ret2
    exact ⟨rfl, Below.refl _ _⟩
  · obtain ⟨bl, o, hA, hb⟩ := h.form (by omega)
    subst hA
    have hn : 0 < n := by
      rcases Nat.eq_zero_or_pos n with e | e
      · have := h.len; rw [e, dg_zero] at this; simp at this; omega
      · exact e
    have l0 : ((L : Int) == 0) = false := by rw [beq_eq_false_iff_ne]; omega
    obtain ⟨K, hK⟩ : ∃ K, L = K + 1 := ⟨L - 1, by omega⟩
    have e1 : (L : Int) - 1 = (K : Int) := by omega
    have w1 : IntKind.i64.wrap ((L : Int) - 1) = (K : Int) := by rw [IntWalk.i64_in _ (by omega)]; omega
    have hD : Hid (∀ wr, Below w.heap.size w wr → ∀ (J x : Nat), (dg n)[J]? = some x → wr.cell? ⟨bl, o + J, none⟩ = some (.int .i64 (x : Int))) := Lib.hid fun wr hbr J x hx => (hbr.cell (p := ⟨bl, o + J, none⟩) hb).trans (H.out.at hx)
    have hend : (decide ((L : Int) ≤ 200)) = decide (L ≤ 200) := by
      by_cases h : L ≤ 200
      · rw [decide_eq_true h, decide_eq_true (by omega)]
      · rw [decide_eq_false h, decide_eq_false (by omega)]
    obtain ⟨P0, hP0⟩ : ∃ P0, P0 = (pre b).length := ⟨_, rfl⟩
    have hP1 : P0 ≤ 1 := by rw [hP0]; cases b <;> simp [pre]
    have hst : ∀ (wr : World) (v : Value), wr.ownsRow w.heap.size 5 1 v P0 (bV (pre b)) → wr.ownsRow w.heap.size 5 1 v P0 (bV (pre b ++ wrt ((dg n).drop L))) := fun wr v h => by
      rw [List.drop_of_length_le (by rw [H.out.len]; exact Nat.le_refl _), show wrt [] = [] from rfl, List.append_nil]; exact h
    have hde := dec_pre b n hn
    obtain ⟨S, hS⟩ : ∃ S, S = dec (sgn b n) := ⟨_, rfl⟩
    obtain ⟨Q, hQ⟩ : ∃ Q, Q = decide (L ≤ 200) := ⟨_, rfl⟩
    rw [← hS] at hde ⊢
    rw [← hQ] at hend ⊢
    have HE := Lib.hid hend
    have HST := Lib.hid hst; have HP := Lib.hid hP0; have HDE := Lib.hid hde
    clear h hn hend hst hP0 hde hS hQ hK
    go_enter Tryz.func68, Tryz.ntmps68
    cases b
    · go_wp2
      go_loopw [6, 7] (fun v p wr => ∃ (k m : Nat) (z : Int), p = .int .i64 z ∧ z + 1 = (k : Int) ∧ k ≤ L ∧ m + k = P0 + L ∧ wr.ownsRow w.heap.size 5 1 v m (bV (pre false ++ wrt ((dg n).drop k))) ∧ Below w.heap.size w wr) (fun _ p _ => (intOf p + 1).toNat)
      case atStart => exact ⟨L, P0, _, rfl, by omega, Nat.le_refl _, rfl, HST.out _ _ (by rw [HP.out]; exact World.ownsRow_nil _ _ _ _), Below.refl _ _⟩
      case round =>
        obtain ⟨k, m0, z, rfl, hz, hk, hm0, hrow, hbr⟩ := hrel
        by_cases hk0 : k = 0
        · subst hk0
          obtain rfl : z = -1 := by omega
          rw [List.drop_zero] at hrow
          have hr2 := run_string_row wr w.heap.size _ m0 _ (by rw [List.length_append, wrt_len, ← H.out.len, ← HP.out]; omega) (by omega) hrow
          rw [← HDE.out] at hr2
          have hend := HE.out
          clear hrow HST HE HDE hD
          go_wp2
          go_ret2
          exact ⟨rfl, hbr⟩
        · obtain ⟨J, rfl⟩ : ∃ J, k = J + 1 := ⟨k - 1, by omega⟩
          obtain rfl : z = (J : Int) := by omega
          obtain ⟨x, hx⟩ := H.out.nth (i := J) (by omega)
          have hx9 := (dg_small n).at hx
          have hcx := hD.out wr hbr J x hx
          have hsn := byte_snoc (pre false) (dg n) J x hx hx9
          have j0 : (0 : Int) ≤ (J : Int) := by omega
          have j1 : (J : Int) < (L : Int) := by omega
          have mx : m0 + 1 ≤ 3000 := by omega
          have mx2 : (m0 + 1) * 1 ≤ 140737488355328 := by omega
          have mx1 : m0 + 1 ≤ maxLen := by unfold maxLen; omega
          obtain ⟨Z, hZ, a5, a6, a7⟩ := less_facts J (by omega)
          obtain ⟨Y, hY, a1, a2, a3, a4, a8, a9⟩ := byte_facts x hx9
          rw [hY] at hsn
          have ka := keep_alloc hbr (.cells #[.int .u8 Y] 5)
          have HSN := Lib.hid hsn; have HR := Lib.hid hrow; have HZ := Lib.hid hZ
          clear hsn hrow hx hY hx9 hz hZ
          go_wp2_with (at_builtin; refine wpList_append_own _ rfl _ _ 48 rfl w.heap.size 5 i0 (.int .u8 0) 1 1 Tryz.underlying48 hi hz0 hz1 hz2 rfl (by decide) _ _ _ rfl (HR.out.alloc _) ⟨wr.heap.size, 0, none⟩ 1 1 [.int .u8 Y] rfl rfl (cell_one_new _ _ _) (by simp [Value.oneCell']) mx1 mx2 ka.size ?_; intro v1 w1 hown1 hgrow _)
          clear a1 a2 a3 a4 a5 a6 a7 a8 a9
          go_roundw
          case rel =>
            refine ⟨J, m0 + 1, Z, rfl, by rw [HZ.out]; omega, by omega, by omega, ?_, keep_grown ka hgrow (HR.out.alloc _)⟩
            rw [HSN.out]
            exact hown1
          case measure => rw [intOf, intOf, HZ.out]; omega
    · have ka0 := keep_alloc (Below.refl w.heap.size w) (.cells #[.int .u8 45] 5)
      go_wp2_with (at_builtin; refine wpList_append_own _ rfl _ _ 48 rfl w.heap.size 5 i0 (.int .u8 0) 1 1 Tryz.underlying48 hi hz0 hz1 hz2 rfl (by decide) _ _ _ rfl ((World.ownsRow_nil _ _ _ _).alloc _) ⟨w.heap.size, 0, none⟩ 1 1 [.int .u8 45] rfl rfl (cell_one_new _ _ _) (by simp [Value.oneCell']) (by unfold maxLen; omega) (by omega) ka0.size ?_; intro v0 w0 hown0 hgrow0 _)
      have b0 := keep_grown (e := 5) (k := 1) ka0 hgrow0 ((World.ownsRow_nil w w.heap.size 5 1).alloc _)
      have hP1 : P0 = 1 := HP.out
      go_loopw [6, 7] (fun v p wr => ∃ (k m : Nat) (z : Int), p = .int .i64 z ∧ z + 1 = (k : Int) ∧ k ≤ L ∧ m + k = P0 + L ∧ wr.ownsRow w.heap.size 5 1 v m (bV (pre true ++ wrt ((dg n).drop k))) ∧ Below w.heap.size w wr) (fun _ p _ => (intOf p + 1).toNat)
      case atStart => exact ⟨L, P0, _, rfl, by omega, Nat.le_refl _, rfl, HST.out _ _ (by rw [hP1]; exact hown0), b0⟩
      case round =>
        obtain ⟨k, m0, z, rfl, hz, hk, hm0, hrow, hbr⟩ := hrel
        by_cases hk0 : k = 0
        · subst hk0
          obtain rfl : z = -1 := by omega
          rw [List.drop_zero] at hrow
          have hr2 := run_string_row wr w.heap.size _ m0 _ (by rw [List.length_append, wrt_len, ← H.out.len, ← HP.out]; omega) (by omega) hrow
          rw [← HDE.out] at hr2
          have hend := HE.out
          clear hrow HST HE HDE hD
          go_wp2
          go_ret2
          exact ⟨rfl, hbr⟩
        · obtain ⟨J, rfl⟩ : ∃ J, k = J + 1 := ⟨k - 1, by omega⟩
          obtain rfl : z = (J : Int) := by omega
          obtain ⟨x, hx⟩ := H.out.nth (i := J) (by omega)
          have hx9 := (dg_small n).at hx
          have hcx := hD.out wr hbr J x hx
          have hsn := byte_snoc (pre true) (dg n) J x hx hx9
          have j0 : (0 : Int) ≤ (J : Int) := by omega
          have j1 : (J : Int) < (L : Int) := by omega
          have mx : m0 + 1 ≤ 3000 := by omega
          have mx2 : (m0 + 1) * 1 ≤ 140737488355328 := by omega
          have mx1 : m0 + 1 ≤ maxLen := by unfold maxLen; omega
          obtain ⟨Z, hZ, a5, a6, a7⟩ := less_facts J (by omega)
          obtain ⟨Y, hY, a1, a2, a3, a4, a8, a9⟩ := byte_facts x hx9
          rw [hY] at hsn
          have ka := keep_alloc hbr (.cells #[.int .u8 Y] 5)
          have HSN := Lib.hid hsn; have HR := Lib.hid hrow; have HZ := Lib.hid hZ
          clear hsn hrow hx hY hx9 hz hZ
          go_wp2_with (at_builtin; refine wpList_append_own _ rfl _ _ 48 rfl w.heap.size 5 i0 (.int .u8 0) 1 1 Tryz.underlying48 hi hz0 hz1 hz2 rfl (by decide) _ _ _ rfl (HR.out.alloc _) ⟨wr.heap.size, 0, none⟩ 1 1 [.int .u8 Y] rfl rfl (cell_one_new _ _ _) (by simp [Value.oneCell']) mx1 mx2 ka.size ?_; intro v1 w1 hown1 hgrow _)
          clear a1 a2 a3 a4 a5 a6 a7 a8 a9
          go_roundw
          case rel =>
            refine ⟨J, m0 + 1, Z, rfl, by rw [HZ.out]; omega, by omega, by omega, ?_, keep_grown ka hgrow (HR.out.alloc _)⟩
            rw [HSN.out]
            exact hown1
          case measure => rw [intOf, intOf, HZ.out]; omega
end Go.Proofs.YtgpncnnlhhmjaaaGreatDoor
