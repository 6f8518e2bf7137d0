/- digest.sumOf returns the digest of its parts, one after the other. -/
import Derived.Test.YtjcamhekhfokhaaDoorIter
import Derived.Test.YtjcamhekhfokhaaDoorComp
import Derived.Test.YtjcamhekhfokhaaDoorPad
import Derived.Maps.AppendAt
import Derived.Laws.IdiomStrings
namespace Go.Proofs.YtjcamhekhfokhaaDoor
open Go.RowKit Go.Shelf

theorem Tab.belowAt {B : Nat} {w w' : World} (h : Tab w) (hb : Below B w w') (hB : 0 < B) : Tab w' := fun i hi => (hb.cell (p := ⟨0, i, none⟩) hB).trans (h i hi)

def strsV (ps : Nat → ByteArray) (m : Nat) : List Value := (List.range m).map fun j => .string (ps j)
theorem strsV_len (ps : Nat → ByteArray) (m : Nat) : (strsV ps m).length = m := by simp [strsV]
theorem strsV_at (ps : Nat → ByteArray) {m j : Nat} (h : j < m) : (strsV ps m)[j]? = some (.string (ps j)) := by simp [strsV, h]

theorem string_info : (Tryd.prog.info? 9).map (fun i => (i.zero, i.size, i.bytes)) = some (some (.string ⟨#[]⟩), 1, 16) := by kernel_rfl
theorem byte_info : (Tryd.prog.info? 5).map (fun i => (i.zero, i.size, i.bytes)) = some (some (.int .u8 0), 1, 1) := by kernel_rfl

section
attribute [local go_sem] Oper.semAt_some
theorem blocks_in (n : Nat) (A : Option Addr) (m c : Nat) (w : World) :
    CallsIn Fence.wide n Tryd.prog 54 #[.slice A m c] w fun e w' => e = .returned (.func (.func 61) #[] #[.pointer (some ⟨w.heap.size, 0, none⟩)]) ∧ w' = w.alloc (.cells #[.slice A m c] 26) := by
  refine callsIn_of_wp Tryd.func54 rfl trivial ?_ rfl
  simp only [Tryd.ntmps54, List.size_toArray, List.length_cons, List.length_nil, Nat.reduceAdd, Nat.reduceSub, Array.replicate_succ, Array.replicate_zero, List.push_toArray, List.append_toArray, List.nil_append, List.cons_append]
  gi_wp2
  go_ret
  exact ⟨rfl, rfl⟩
theorem grown_of_below {a w : World} {B : Nat} (h : Below B a w) (hB : a.heap.size ≤ B) : a.grownBy w none := ⟨h.os, h.tape, h.output, h.size, fun i hi _ => h.block i (by omega)⟩
theorem own_at {w : World} {B : Nat} {e : TypeId} {g n c k : Nat} {xs : List Value} (h : w.ownsRow B e k (.slice (some ⟨g, 0, none⟩) n c) n xs) : (∃ C, Row w g e C) ∧ B ≤ g := by
  rcases h.2 with ⟨h0, _⟩ | ⟨g', cap', cur, hv, hbase, hheap, _⟩
  · cases h0
  · cases hv
    exact ⟨⟨cur, hheap⟩, hbase⟩
theorem own_ne {w : World} {B : Nat} {e : TypeId} {g n c k : Nat} {xs : List Value} (h : w.ownsRow B e k (.slice (some ⟨g, 0, none⟩) n c) n xs) {g2 : Nat} {t : TypeId} {C : Array Value} (hr : Row w g2 t C) (hne : e ≠ t) : g ≠ g2 := by
  obtain ⟨⟨D, hD⟩, _⟩ := own_at h
  rintro rfl
  unfold Row at hD hr
  rw [hD] at hr
  injection hr with hr
  injection hr with _ h2
  exact hne h2
theorem grown_new_row (W : World) (o : Obj) (D : Array Value) : W.grownBy ((W.alloc o).setRow W.heap.size D) none :=
  ⟨rfl, rfl, rfl, by simp, fun i hi _ => (setRow_other _ _ _ _ (by omega)).trans (Below.heap_alloc W o i hi)⟩
def S8.nth (s : S8) : Nat → Nat
  | 0 => s.a | 1 => s.b | 2 => s.c | 3 => s.d | 4 => s.e | 5 => s.f | 6 => s.g | _ => s.h
def preB (s : S8) : Nat → List UInt8
  | 0 => []
  | i + 1 => preB s i ++ be4 (s.nth i)
theorem preB_all (s : S8) : preB s 8 = bytesOf s := rfl
theorem preB_len (s : S8) : ∀ i, (preB s i).length = 4 * i
  | 0 => rfl
  | i + 1 => by rw [preB, List.length_append, preB_len s i]; rfl
theorem nth_lt {s : S8} (h : s.ok) (i : Nat) : s.nth i < 4294967296 := by
  unfold S8.nth; split
  · exact h.a
  · exact h.b
  · exact h.c
  · exact h.d
  · exact h.e
  · exact h.f
  · exact h.g
  · exact h.h
theorem index8 (s : S8) (i : Nat) (hi : i < 8) (X : World) : (Instr.index 60 (.agg (s8A s)) (.int .i64 (i : Int))).run Tryd.prog X = .ok (.int .u32 (s.nth i : Int)) X := by
  obtain rfl | rfl | rfl | rfl | rfl | rfl | rfl | rfl : i = 0 ∨ i = 1 ∨ i = 2 ∨ i = 3 ∨ i = 4 ∨ i = 5 ∨ i = 6 ∨ i = 7 := by omega
  all_goals kernel_rfl
theorem own_not {w : World} {B D : Nat} {e : TypeId} {k n : Nat} {v : Value} {xs : List Value} {ds : Option (List Deferred)} (h : w.ownsRow B e k v n xs) (hd : w.heap[D]? = some (.deferred ds)) : v.ownBlock ≠ some D := by
  rcases h.2 with ⟨rfl, _⟩ | ⟨g', cap', cur, rfl, _, hheap, _⟩
  · simp [Value.ownBlock]
  · intro e
    simp [Value.ownBlock] at e
    subst e
    rw [hheap] at hd
    cases hd
def withPad (ps : Nat → ByteArray) (m : Nat) (L : List UInt8) (j : Nat) : ByteArray := if j < m then ps j else ⟨L.toArray⟩
theorem withPad_parts (ps : Nat → ByteArray) (m : Nat) (L : List UInt8) : ∀ j, j ≤ m → partsL (withPad ps m L) j = partsL ps j
  | 0, _ => rfl
  | j + 1, h => by rw [partsL, partsL, withPad_parts ps m L j (by omega), withPad, if_pos (by omega)]
theorem withPad_all (ps : Nat → ByteArray) (m : Nat) (L : List UInt8) : partsL (withPad ps m L) (m + 1) = partsL ps m ++ L := by
  rw [partsL, withPad_parts ps m L m (Nat.le_refl _), withPad, if_neg (by omega)]
/-- The state behind k blocks. -/
def stateN (T : List UInt8) : Nat → S8
  | 0 => init8
  | k + 1 => comp (stateN T k) (blk T k)
theorem init_ok : init8.ok := by constructor <;> decide
theorem state_ok (T : List UInt8) : ∀ k, (stateN T k).ok
  | 0 => init_ok
  | k + 1 => comp_ok _ _
theorem blk_len {T : List UInt8} {k : Nat} (h : 64 * k + 64 ≤ T.length) : (blk T k).length = 64 := by simp [blk]; omega
theorem chunks_fold : ∀ (n : Nat) (T : List UInt8) (k : Nat), (chunks n (T.drop (64 * k))).foldl comp (stateN T k) = stateN T (k + n)
  | 0, T, k => rfl
  | n + 1, T, k => by
    rw [chunks, List.foldl_cons, List.drop_drop, show 64 * k + 64 = 64 * (k + 1) by omega]
    have := chunks_fold n T (k + 1)
    rw [stateN, blk] at this
    rw [this]; congr 1; omega
theorem sha_state (l : List UInt8) : sha l = bytesOf (stateN (l ++ pad l.length) ((l.length + 8) / 64 + 1)) := by
  have := chunks_fold ((l.length + 8) / 64 + 1) (l ++ pad l.length) 0
  rw [Nat.mul_zero, List.drop_zero, Nat.zero_add] at this
  rw [sha, blocksOf, ← this]; rfl

set_option maxRecDepth 100000 in
set_option maxHeartbeats 1000000 in
theorem sumOf_in (n : Nat) (hn : 5 ≤ n) (B pb m c : Nat) (ps : Nat → ByteArray) (w : World) (ht : Tab w) (hgB : 0 < B) (hBw : B ≤ w.heap.size) (hm0 : 0 < m) (hm : m ≤ 100) (hT : (partsL ps m).length ≤ 1000000000) (hpb : pb < w.heap.size)
    (hown : w.ownsRow B 9 1 (.slice (some ⟨pb, 0, none⟩) m c) m (strsV ps m)) :
    CallsIn Fence.wide n Tryd.prog 40 #[.slice (some ⟨pb, 0, none⟩) m c] w fun e w' => e = .returned (.string ⟨(sha (partsL ps m)).toArray⟩) ∧ Below B w w' := by
  have hn1 : 1 ≤ n := by omega
  obtain ⟨i0, hi, hz0, hz1, hz2⟩ := info_parts string_info
  have hcell : ∀ j, j < m → w.cell? ⟨pb, j, none⟩ = some (.string (ps j)) := by
    intro j hj
    rw [hown.cellAt j (by omega), strsV_at ps hj]
  have HPB : B ≤ pb := (own_at hown).2
  have HT := Lib.hid ht; have HO := Lib.hid hown; have HC := Lib.hid hcell
  clear ht hown hcell
  refine callsIn_of_wp_marks Tryd.func40 rfl trivial ?_ rfl
  simp only [Tryd.ntmps40, List.size_toArray, List.length_cons, List.length_nil, Nat.reduceAdd, Nat.reduceSub, Array.replicate_succ, Array.replicate_zero, List.push_toArray, List.append_toArray, List.nil_append, List.cons_append]
  gi_wp2
  generalize hW1 : w.alloc (.cells _ 60) = W1
  have r1 : Row W1 w.heap.size 60 (s8A init8) := by rw [← hW1]; exact Row.made _ _ _
  have sW1 : W1.heap.size = w.heap.size + 1 := by rw [← hW1]; simp
  have bW1 : Below B w W1 := by rw [← hW1]; exact (Below.refl _ _).alloc hBw _
  have o1 : W1.ownsRow B 9 1 (.slice (some ⟨pb, 0, none⟩) m c) m (strsV ps m) := by rw [← hW1]; exact HO.out.alloc _
  have c1 : ∀ j, j < m → W1.cell? ⟨pb, j, none⟩ = some (.string (ps j)) := fun j hj => by rw [← HC.out j hj, ← hW1]; exact World.cell?_of_block (Below.heap_alloc w _ pb hpb)
  have R1 := Lib.hid r1; have S1 := Lib.hid sW1; have B1 := Lib.hid bW1; have O1 := Lib.hid o1; have C1 := Lib.hid c1
  clear hW1 r1 sW1 bW1 o1 c1 HO HC
  gi_loop [4, 14] (fun q p => ∃ j : Nat, p = .int .i64 j ∧ j ≤ m ∧ q = .int .i64 ((partsL ps j).length : Nat)) (fun _ p => m - (intOf p).toNat)
  case atStart => exact ⟨0, rfl, by omega, rfl⟩
  case round =>
    obtain ⟨j, rfl, hj, rfl⟩ := hrel
    by_cases hlt : j < m
    · have cj := C1.out j hlt
      have l1 := partsL_le ps (show j + 1 ≤ m by omega)
      have e1 : (partsL ps (j + 1)).length = (partsL ps j).length + (ps j).size := by rw [partsL, List.length_append]; simp
      obtain ⟨q, hq⟩ : ∃ q, q = (partsL ps j).length := ⟨_, rfl⟩
      rw [← hq] at e1 ⊢
      have kq : q + (ps j).size ≤ 1000000000 := by omega
      have E1 := Lib.hid e1; clear e1 hq
      gi_wp2
      go_round
      case rel => exact ⟨j + 1, by go_num, by omega, by rw [E1.out]; go_num⟩
      case measure => simp [intOf]; omega
    · obtain rfl : j = m := by omega
      obtain ⟨Ln, hLn⟩ : ∃ q, q = (partsL ps j).length := ⟨_, rfl⟩
      rw [← hLn]
      have kL : Ln ≤ 1099511627776 := by omega
      have kL9 : Ln ≤ 1000000000 := by rw [hLn]; exact hT
      have HL := Lib.hid hLn; clear hLn hlt
      obtain ⟨W1', rfl⟩ : ∃ x, x = W1 := ⟨_, rfl⟩
      gi_wp2_with (first
        | (refine ⟨trivial, ?_⟩; gi_at_call 55; refine (callsIn_wide.2 (padding_any Ln kL _)).mono ?_; rintro e w1 ⟨rfl, b1⟩; have o1 := O1.out.kept (grown_of_below b1 (Nat.le_refl _)) (.inr (by simp [Value.ownBlock])); have sz1 := b1.size)
        | (gi_at_builtin; refine wpListIn_append_own _ rfl _ _ 26 rfl B 9 i0 (.string ⟨#[]⟩) 1 16 Tryd.underlying26 hi hz0 hz1 hz2 rfl (by decide) _ _ _ rfl (o1.alloc _) ⟨w1.heap.size, 0, none⟩ 1 1 [.string ⟨(pad Ln).toArray⟩] rfl rfl (cell_one_new _ _ _) (by simp [Value.oneCell']) (by unfold maxLen; omega) (by omega) (by have := S1.out; simp; omega) ?_; intro v' w2 o2 hg2 _; obtain ⟨g', cap', rfl⟩ := ownsRow_succ o2)
        | (refine ⟨trivial, ?_⟩; gi_at_call 54; refine (blocks_in _ _ _ _ _).mono ?_; rintro e w3 ⟨rfl, rfl⟩))
      have hg2' : (w1.alloc (.cells #[.string ⟨(pad Ln).toArray⟩] 9)).grownBy w2 (some pb) := hg2
      have o2' : w2.ownsRow B 9 1 (.slice (some ⟨g', 0, none⟩) (j + 1) cap') (j + 1) (strsV ps j ++ [.string ⟨(pad Ln).toArray⟩]) := o2
      have sz2 := hg2'.size
      rw [World.size_alloc] at sz2
      have o3 := o2'.alloc (.cells #[.slice (some ⟨g', 0, none⟩) (j + 1) cap'] 26)
      have bx := Row.made w2 26 #[.slice (some ⟨g', 0, none⟩) (j + 1) cap']
      have r3 : Row (w2.alloc (.cells #[.slice (some ⟨g', 0, none⟩) (j + 1) cap'] 26)) w.heap.size 60 (s8A init8) :=
        (((R1.out.below b1 (by have := S1.out; omega)).later _).grown hg2' (fun e => by injection e with e; omega)).later _
      have hB3 : Below B w (w2.alloc (.cells #[.slice (some ⟨g', 0, none⟩) (j + 1) cap'] 26)) := by
        have h1 := B1.out.trans (b1.mono (by have := S1.out; omega))
        have h2 := h1.alloc (by have := S1.out; omega) (.cells #[.string ⟨(pad Ln).toArray⟩] 9)
        exact (h2.grown hg2' (by have := S1.out; simp; omega) (fun k e => by cases e; exact HPB)).alloc (by have := S1.out; omega) _
      generalize hw3 : w2.alloc (.cells #[.slice (some ⟨g', 0, none⟩) (j + 1) cap'] 26) = w3 at o3 bx r3 hB3 ⊢
      have sz3 : w3.heap.size = w2.heap.size + 1 := by rw [← hw3]; simp
      obtain ⟨T, hTd⟩ : ∃ T, T = partsL ps j ++ pad Ln := ⟨_, rfl⟩
      have hparts : ∀ i, i < j + 1 → w3.cell? ⟨g', 0 + i, none⟩ = some (.string (withPad ps j (pad Ln) i)) := by
        intro i hi
        rw [Nat.zero_add, o3.cellAt i (by omega)]
        unfold withPad
        rcases Nat.lt_or_ge i j with h | h
        · rw [if_pos h, List.getElem?_append_left (by rw [strsV_len]; exact h), strsV_at ps h]
        · obtain rfl : i = j := by omega
          rw [if_neg (by omega), List.getElem?_append_right (by rw [strsV_len]; omega), strsV_len, Nat.sub_self]; rfl
      have hTp : partsL (withPad ps j (pad Ln)) (j + 1) = T := by rw [withPad_all, hTd]
      have hTl : T.length = 64 * ((Ln + 8) / 64 + 1) := by rw [hTd, HL.out]; exact flat_len _
      have hg' : g' < w3.heap.size := World.block_lt_of_cell? _ _ (hparts 0 (by omega))
      have hgne : g' ≠ w.heap.size := own_ne o3 r3 (by decide)
      have hands := blocks_hands Fence.wide (n - 1) trivial rfl (by omega) w2.heap.size w.heap.size g' 0 (j + 1) cap' (withPad ps j (pad Ln)) w3 (by omega) (by have := S1.out; omega) hg' (by have := S1.out; omega) hgne (by omega) (by rw [hTp, hTl]; omega) (bx.at rfl) hparts
      rw [hTp, hTl, Nat.mul_div_cancel_left _ (by decide)] at hands
      have hfin : sha (partsL ps j) = bytesOf (stateN T ((Ln + 8) / 64 + 1)) := by rw [sha_state, ← HL.out, hTd]
      have HF := Lib.hid hfin; have TL := Lib.hid hTl
      clear hfin hTl hTp hparts o3 o2' o2 hg2' hg2 o1 b1 bx hTd
      refine range_all (Bs := w.heap.size) rfl hn1 rfl trivial (enters_of Tryd.func61 (by kernel_rfl) rfl) (fun k => rfl) hands (by have := S1.out; omega)
        (fun k W => Row W w.heap.size 60 (s8A (stateN T k)) ∧ Below B w W) ?above ⟨r3, hB3⟩ ?round ?done
      case above =>
        rintro k X Y row ⟨h1, h2⟩ hg hr
        exact ⟨h1.grown hg (fun e => by have := hr _ e.symm; have := S1.out; omega), h2.grown hg (Nat.le_trans hBw h2.size) (fun r e => by have := hr r e; have := S1.out; omega)⟩
      case round =>
        intro l k W T' hl hlW hI hk hT'
        obtain ⟨hr, hb⟩ := hI
        have hbl : (blk T k).length = 64 := blk_len (by rw [TL.out]; omega)
        have ht := HT.out.belowAt hb hgB
        obtain ⟨D, hD⟩ : ∃ D, D = blkA (blk T k) := ⟨_, rfl⟩
        have sD : D.size = 64 := by rw [hD]; simp [blkA, hbl]
        have oD : D.all (·.oneCell') = true := by
          rw [hD, Array.all_eq_true_iff_forall_mem]
          intro v hv
          simp only [blkA, List.mem_toArray, List.mem_map] at hv
          obtain ⟨x, _, rfl⟩ := hv
          rfl
        have z64 : (Tryd.prog.info? 64).map (·.size) = some D.size := by rw [sD]; exact size64
        have hcall := fun X hX => comp_any (stateN T k) (state_ok T k) (blk T k) hbl X hX
        rw [← hD] at hcall
        obtain ⟨st, hst⟩ : ∃ s, s = s8A (stateN T k) := ⟨_, rfl⟩
        obtain ⟨st', hst'⟩ : ∃ s, s = s8A (comp (stateN T k) (blk T k)) := ⟨_, rfl⟩
        rw [← hst, ← hst'] at hcall
        rw [← hst] at hr
        have sst : st.size = 8 := by rw [hst]; rfl
        have z60 : (Tryd.prog.info? 60).map (·.size) = some st.size := by rw [sst]; exact size60
        have sst' : st'.size = 8 := by rw [hst']; rfl
        have z60' : (Tryd.prog.info? 60).map (·.size) = some st'.size := by rw [sst']; exact size60
        have ost' : st'.all (·.oneCell') = true := by rw [hst']; simp [s8A, Value.oneCell']
        have HD := Lib.hid hD; have SD := Lib.hid sD; have OD := Lib.hid oD; have Z64 := Lib.hid z64; have HST := Lib.hid hst; have HST' := Lib.hid hst'; have Z60 := Lib.hid z60; have Z60' := Lib.hid z60'; have OST := Lib.hid ost'; have SS := Lib.hid sst; have SS' := Lib.hid sst'
        have HR := Lib.hid hr; have HTW := Lib.hid ht
        rw [← hD]
        clear hD sD oD z64 hst hst' z60 z60' ost' sst sst' hr ht hbl
        gi_wp2_with ((with_reducible refine storeRowIn (o := ⟨none, .store 64 _ _, _, _, _, _⟩) rfl 64 (.tmp 7) (.tmp 29) rfl W.heap.size D ?_ ?_ 64 (Array.replicate 64 (.int .u8 0)) ?_ ?_ ?_ ?_ ?_); exact rfl; exact rfl; exact Row.made _ _ _; exact Z64.out; (rw [SD.out]; rfl); exact OD.out)
        have hlw : w.heap.size < W.heap.size := by have := S1.out; omega
        refine hT' _ _ ?_ ?_ ?_
        · exact ⟨by rw [← HST.out]; exact (HR.out.later _).aside_row (by omega) _, below_row (hb.alloc (by omega) _) (by omega) _⟩
        · exact grown_new_row _ _ _
        intro W₂ hg2 hI2
        obtain ⟨hr2, hb2⟩ := hI2
        have hd2 : Row W₂ W.heap.size 64 D := ((Row.made W _ _).whole D).grown hg2 (fun e => by injection e with e; omega)
        rw [← HST.out] at hr2
        have HR2 := Lib.hid hr2; have HD2 := Lib.hid hd2; have HT2 := Lib.hid (HT.out.belowAt hb2 hgB)
        clear hr2 hd2
        gi_wp2_with (first
          | ((with_reducible refine loadRowIn (o := ⟨some 30, _, _, _, _, _⟩) rfl 60 (.tmp 3) rfl w.heap.size ?_ 60 st ?_ _ Tryd.underlying60 ?_ ?_ ?_); exact rfl; exact HR2.out; exact rfl; exact Z60.out)
          | ((with_reducible refine loadRowIn (o := ⟨some 31, _, _, _, _, _⟩) rfl 64 (.tmp 7) rfl W.heap.size ?_ 64 D ?_ _ Tryd.underlying64 ?_ ?_ ?_); exact rfl; exact HD2.out; exact rfl; exact Z64.out)
          | (refine ⟨trivial, fun _ => (by omega), ?_⟩; gi_at_call 56; refine (CallsIn.inRound l (callsIn_wide.2 (hcall _ HT2.out))).mono ?_; rintro e Y ⟨rfl, hbY⟩)
          | ((with_reducible refine storeRowIn (o := ⟨none, .store 60 _ _, _, _, _, _⟩) rfl 60 (.tmp 3) (.tmp 32) rfl w.heap.size st' ?_ ?_ 60 st ?_ ?_ ?_ ?_ ?_); exact rfl; exact rfl; exact HR2.out.below hbY HR2.out.inside; exact Z60'.out; (rw [SS.out, SS'.out]); exact OST.out))
        refine ⟨rfl, ⟨?_, below_row (hb2.trans (hbY.mono (Nat.le_trans hBw hb2.size))) hBw _⟩, grown_join (grown_any (grown_of_below hbY (Nat.le_refl _)) _) (grown_row _ _ _)⟩
        have := (HR2.out.below hbY HR2.out.inside).whole st'
        rw [HST'.out] at this ⊢
        exact this
      case done =>
        intro D W hD hI hK
        obtain ⟨hr, hb⟩ := hI
        obtain ⟨s, hs⟩ : ∃ s, s = stateN T ((Ln + 8) / 64 + 1) := ⟨_, rfl⟩
        rw [← hs] at hr
        have HR := Lib.hid hr; have HK := Lib.hid hK; have HS := Lib.hid hs
        clear hr hK hs
        have hBs : B ≤ w.heap.size := hBw
        obtain ⟨j0, hj, hjz0, hjz1, hjz2⟩ := info_parts byte_info
        have hmk : ∀ X : World, (Instr.makeSlice 43 (.int .i64 0) (.int .i64 32)).run Tryd.prog X = .ok (.slice (some ⟨X.heap.size, 0, none⟩) 0 32) (X.alloc (.cells (Array.replicate 32 (.int .u8 0)) 5)) := fun _ => by kernel_rfl
        gi_wp2_with ((with_reducible refine loadRowIn (o := ⟨some 34, _, _, _, _, _⟩) rfl 60 (.tmp 3) rfl w.heap.size ?_ 60 (s8A s) ?_ _ Tryd.underlying60 ?_ ?_ ?_); exact rfl; exact HR.out.later _; exact rfl; exact size60)
        have om := World.ownsRow_made (base := B) (e := 5) (size := 1) W (Array.replicate 32 (.int .u8 0)) 32 (Nat.le_trans hBw hb.size) (by decide) (by simp)
        have hDW : D < W.heap.size := (Array.getElem?_eq_some_iff.1 HK.out).1
        have hK2 : (W.alloc (.cells (Array.replicate 32 (.int .u8 0)) 5)).heap[D]? = some (.deferred (some [])) := (Below.heap_alloc W _ D hDW).trans HK.out
        have hb2 : Below B w (W.alloc (.cells (Array.replicate 32 (.int .u8 0)) 5)) := hb.alloc (Nat.le_trans hBw hb.size) _
        have HK2 := Lib.hid hK2; clear hK2 HK
        have hok : s.ok := by rw [HS.out]; exact state_ok _ _
        clear hmk
        gi_loopw [8, 35] (fun v p wr => ∃ i : Nat, p = .int .i64 i ∧ i ≤ 8 ∧ wr.ownsRow B 5 1 v (4 * i) (bytesV (preB s i)) ∧ v ≠ .slice none 0 0 ∧ wr.heap[D]? = some (.deferred (some [])) ∧ Below B w wr) (fun _ p _ => 8 - (intOf p).toNat)
        case atStart => exact ⟨0, rfl, by omega, om, by simp, HK2.out, hb2⟩
        case round =>
          clear hb2 om hb
          obtain ⟨i, rfl, hi8, hrow, hvn, hKr, hbr⟩ := hrel
          by_cases hlt : i < 8
          · obtain ⟨x, hx⟩ : ∃ x, x = s.nth i := ⟨_, rfl⟩
            have kx : x < 4294967296 := by rw [hx]; exact nth_lt hok i
            have hidx := index8 s i hlt wr
            rw [← hx] at hidx
            have HX := Lib.hid hx; have HR2 := Lib.hid hrow; have HV := Lib.hid hvn; have HKr := Lib.hid hKr
            clear hx hrow hvn hKr
            have hcells : ∀ (q : Nat) (u : Value), [Value.int .u8 ((x : Int) / 16777216), .int .u8 ((x : Int) / 65536 % 256), .int .u8 ((x : Int) / 256 % 256), .int .u8 ((x : Int) % 256)][q]? = some u →
                (wr.alloc (.cells #[Value.int .u8 ((x : Int) / 16777216), .int .u8 ((x : Int) / 65536 % 256), .int .u8 ((x : Int) / 256 % 256), .int .u8 ((x : Int) % 256)] 5)).cell? ((⟨wr.heap.size, 0, none⟩ : Addr).add q) = some u := by
              intro q u hq
              have e0 : (⟨wr.heap.size, 0, none⟩ : Addr).add q = ⟨wr.heap.size, q, none⟩ := by unfold Addr.add; split <;> simp_all
              rw [e0]
              exact (Row.made _ _ _).at (by simpa using hq)
            have HCL := Lib.hid hcells; clear hcells
            gi_wp2_with (gi_at_builtin; refine wpListIn_append_own _ rfl _ _ 43 rfl B 5 j0 (.int .u8 0) 1 1 Tryd.underlying43 hj hjz0 hjz1 hjz2 rfl (by decide) _ _ _ rfl (HR2.out.alloc _) ⟨wr.heap.size, 0, none⟩ 4 4 [Value.int .u8 ((x : Int) / 16777216), .int .u8 ((x : Int) / 65536 % 256), .int .u8 ((x : Int) / 256 % 256), .int .u8 ((x : Int) % 256)] rfl rfl HCL.out (by simp [Value.oneCell']) (by unfold maxLen; omega) (by omega) (by have := hbr.size; simp; omega) ?_; intro v' w4 o4 hg4 hn4)
            go_roundw
            case rel =>
              have hnews : [Value.int .u8 ((x : Int) / 16777216), .int .u8 ((x : Int) / 65536 % 256), .int .u8 ((x : Int) / 256 % 256), .int .u8 ((x : Int) % 256)] = bytesV (be4 x) := by
                simp only [bytesV, be4, List.map_cons, List.map_nil, UInt8.toNat_ofNat']
                have e1 : ((x / 16777216 % 2 ^ 8 : Nat) : Int) = (x : Int) / 16777216 := by omega
                have e2 : ((x / 65536 % 2 ^ 8 : Nat) : Int) = (x : Int) / 65536 % 256 := by omega
                have e3 : ((x / 256 % 2 ^ 8 : Nat) : Int) = (x : Int) / 256 % 256 := by omega
                have e4 : ((x % 2 ^ 8 : Nat) : Int) = (x : Int) % 256 := by omega
                rw [e1, e2, e3, e4]
              have hwB : B ≤ wr.heap.size := Nat.le_trans hBw hbr.size
              have hg4' : (wr.alloc (.cells #[Value.int .u8 ((x : Int) / 16777216), .int .u8 ((x : Int) / 65536 % 256), .int .u8 ((x : Int) / 256 % 256), .int .u8 ((x : Int) % 256)] 5)).grownBy w4 u8.ownBlock := hg4
              refine ⟨i + 1, by go_num, by omega, ?_, ?_, ?_, ?_⟩
              · rw [preB, bytesV, List.map_append, ← bytesV, ← bytesV, ← HX.out, ← hnews, Nat.mul_add]; exact o4
              · intro e
                exact HV.out (hn4.1 e).1
              · have lt := (Array.getElem?_eq_some_iff.1 HKr.out).1
                rw [hg4'.block D (by simp; omega) (fun e => own_not HR2.out HKr.out e.symm)]
                exact (Below.heap_alloc _ _ _ lt).trans HKr.out
              · exact (hbr.alloc hwB _).grown hg4' (by simp; omega) (fun k e => (HR2.out.lt k e).1)
            case measure => simp [intOf]; omega
          · obtain rfl : i = 8 := by omega
            rw [preB_all, HS.out, ← HF.out] at hrow
            obtain ⟨L, hL⟩ : ∃ L, L = sha (partsL ps j) := ⟨_, rfl⟩
            have lL : L.length = 32 := by rw [hL]; exact sha_len _
            rw [← hL] at hrow
            obtain ⟨g, cap, rfl⟩ := ownsRow_succ (k := 31) hrow
            have hconv : (convert 43 9 (.slice (some ⟨g, 0, none⟩) 32 cap)).run Tryd.prog wr = .ok (.string ⟨L.toArray⟩) wr := by
              have := run_convert_bytes_back (P := Tryd.prog) wr 43 9 5 ⟨g, 0, none⟩ cap L Tryd.underlying43 Tryd.underlying5 Tryd.underlying9 (by
                intro q hq
                have e0 : (⟨g, 0, none⟩ : Addr).add q = ⟨g, q, none⟩ := by unfold Addr.add; split <;> simp_all
                rw [e0, hrow.cellAt q (by omega), bytesV, List.getElem?_map, List.getElem?_eq_getElem hq]; rfl)
              rw [lL] at this
              exact this
            have HL2 := Lib.hid hL; have HKr := Lib.hid hKr
            clear hL hrow hKr lL
            gi_wp2
            refine ⟨by simp, .inl ⟨_, _, rfl, run_takeDeferred HKr.out, ?_⟩⟩
            exact ⟨_, results_tmp rfl _ _ _, by rw [← HL2.out]; rfl, hbr.trans (belowK_b (w := w) hBw wr D _ _ (by have := S1.out; omega) HKr.out rfl rfl)⟩
end
end Go.Proofs.YtjcamhekhfokhaaDoor
