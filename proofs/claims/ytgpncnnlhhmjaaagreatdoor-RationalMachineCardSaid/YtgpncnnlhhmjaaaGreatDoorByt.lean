/- Rows of bytes of the call's own, made from a string, appended to; the table of strconv; strconv.Itoa. -/
import Derived.Test.YtgpncnnlhhmjaaaGreatDoorDivide
import Derived.Test.YtgpncnnlhhmjaaaGreatDoorShelf
import Derived.Lib.AppendStr
import Derived.Lib.ConvBytes
import Derived.Laws.IdiomCopy
namespace Go.Proofs.YtgpncnnlhhmjaaaGreatDoor
open Go.RowKit

theorem byte_info : (Tryz.prog.info? 5).map (fun i => (i.zero, i.size, i.bytes)) = some (some (.int .u8 0), 1, 1) := by kernel_rfl
/-- strconv's table of powers of ten stands in the world. -/
def Tab (w : World) : Prop := Lib.TabIs Tryz.prog w "internal/strconv.uint64pow10" .u64 Lib.pow10Tab
theorem Tab.below {w w' : World} (h : Tab w) (hb : Below w.heap.size w w') : Tab w' := by
  unfold Tab Lib.TabIs World.var? at h ⊢
  cases hg : Tryz.prog.globalNamed "internal/strconv.uint64pow10" with
  | none => simp [hg] at h
  | some g =>
    simp only [hg, Option.bind_some] at h ⊢
    have hlt : g < w.heap.size := by
      rcases Nat.lt_or_ge g w.heap.size with h' | h'
      · exact h'
      · simp [Array.getElem?_eq_none h'] at h
    rw [hb.block g hlt]
    exact h
theorem below_grow (w : World) (k : Nat) (os : Array Obj) : Below w.heap.size w (Sort.grow (w.drewN k) os) :=
  ⟨rfl, rfl, rfl, by simp [Sort.grow, World.drewN], fun i hi => by
    show ((w.drewN k).heap ++ os)[i]? = _
    rw [Array.getElem?_append_left (by show i < w.heap.size; exact hi)]
    rfl⟩
theorem itoa_any (n : Int) (h0 : -9223372036854775808 ≤ n) (h1 : n ≤ 9223372036854775807) (w : World) (ht : Tab w) :
    Calls Tryz.prog 90 #[.int .i64 n] w fun e w' => e = .returned (.string (dec n)) ∧ Below w.heap.size w w' :=
  (Tryz.strconv_Itoa n h0 h1 w ht).mono (fun e w' h => by
    obtain ⟨e1, k, os, e2⟩ := h
    exact ⟨e1, by rw [e2]; exact below_grow w k os⟩)

/-- A row of bytes of the call's own: v has n bytes, l. -/
def OwnB (w : World) (base : Nat) (v : Value) (n : Nat) (l : List UInt8) : Prop :=
  ∃ g cap, v = .slice (some ⟨g, 0, none⟩) n cap ∧ base ≤ g ∧ g < w.heap.size ∧ n = l.length ∧ n ≤ cap ∧ cap ≤ maxLen ∧ (∀ j, j < cap → (w.cell? ⟨g, j, none⟩).isSome = true ∧ w.frozen? ⟨g, j, none⟩ = false) ∧
    ∀ (j : Nat) (b : UInt8), l[j]? = some b → w.cell? ⟨g, j, none⟩ = some (.int .u8 b.toNat)
theorem OwnB.far {w w' : World} {base : Nat} {v : Value} {n : Nat} {l : List UInt8} (h : OwnB w base v n l) (hb : Below w.heap.size w w') : OwnB w' base v n l := by
  obtain ⟨g, cap, h1, h2, h3, h4, h5, h6, h7, h8⟩ := h
  refine ⟨g, cap, h1, h2, Nat.lt_of_lt_of_le h3 hb.size, h4, h5, h6, fun j hj => ?_, fun j b hj => (hb.cell (p := ⟨g, j, none⟩) h3).trans (h8 j b hj)⟩
  exact ⟨by rw [hb.cell (p := ⟨g, j, none⟩) h3]; exact (h7 j hj).1, by rw [hb.frozen (p := ⟨g, j, none⟩) h3]; exact (h7 j hj).2⟩
theorem below_setCells {B : Nat} {a : World} (b : Nat) (hB : B ≤ b) : ∀ (vs : List Value) (o : Nat) (w : World), Below B a w → Below B a (w.setCells b o vs)
  | [], _, _, h => h
  | v :: r, o, w, h => below_setCells b hB r (o + 1) _ (h.setCell (p := ⟨b, o, none⟩) hB v)
theorem cells_row {w : World} {g : Nat} {C : Array Value} {t : TypeId} {m : Nat × Nat} (h : w.heap[g]? = some (.cells C t m)) (i : Nat) : w.cell? ⟨g, i, none⟩ = C[i]? := by
  simp [World.cell?, h]
theorem strCells_at (s : ByteArray) (j : Nat) (b : UInt8) (h : s.data.toList[j]? = some b) : (Lib.strCells s)[j]? = some (.int .u8 b.toNat) := by
  rw [Lib.strCells, List.getElem?_map, h]; rfl

theorem run_append_str (w : World) (ty : TypeId) (base : Nat) (v : Value) (n : Nat) (l : List UInt8) (hown : OwnB w base v n l) (s : ByteArray) (hs : n + s.size ≤ 100000) :
    ∃ v' w', (Builtin.append_ #[48, 9] ty #[v, .string s]).run Tryz.prog w = .ok v' w' ∧ OwnB w' base v' (n + s.size) (l ++ s.data.toList) ∧ (∀ B a, B ≤ base → base ≤ w.heap.size → Below B a w → Below B a w') := by
  obtain ⟨i0, hi0, hz0, hz1, hz2⟩ := info_parts byte_info
  obtain ⟨g, cap, rfl, h2, h3, h4, h5, h6, h7, h8⟩ := hown
  have hsz : s.data.toList.length = s.size := Array.length_toList
  by_cases hroom : n + s.size ≤ cap
  · have hf := Lib.run_firstCells_string (P := Tryz.prog) w 1 s
    have hst := run_storeCells_cells (P := Tryz.prog) g 0 (Lib.strCells s) n w
      (fun j hj => by rw [Lib.strCells_length] at hj; rw [Nat.zero_add]; exact (h7 (n + j) (by omega)).1)
      (fun j hj => by rw [Lib.strCells_length] at hj; rw [Nat.zero_add]; exact (h7 (n + j) (by omega)).2) (Lib.strCells_oneCell s)
    rw [Nat.zero_add] at hst
    have hst2 : (storeCells ⟨g, n, none⟩ (Lib.strCells s) 0).run Tryz.prog w = .ok () (w.setCells g n (Lib.strCells s)) := by
      have h := run_storeCells_cells (P := Tryz.prog) g n (Lib.strCells s) 0 w
        (fun j hj => by rw [Lib.strCells_length] at hj; rw [Nat.add_zero]; exact (h7 (n + j) (by omega)).1)
        (fun j hj => by rw [Lib.strCells_length] at hj; rw [Nat.add_zero]; exact (h7 (n + j) (by omega)).2) (Lib.strCells_oneCell s)
      rw [Nat.add_zero] at h
      exact h
    refine ⟨.slice (some ⟨g, 0, none⟩) (n + s.size) cap, w.setCells g n (Lib.strCells s), ?_, ?_, fun B a hB _ hb => below_setCells g (by omega) _ _ _ hb⟩
    · simp [Builtin.append_, run_underlying Tryz.underlying48, run_underlying Tryz.underlying9, sizeOf, typeInfo, hi0, hz1, Builtin.lenOf, hroom, hf, Addr.add_lit, hst2]
    · have hin : ∀ j, j < s.size → (w.setCells g n (Lib.strCells s)).cell? ⟨g, n + j, none⟩ = (Lib.strCells s)[j]? := fun j hj => by
        have hj' : j < (Lib.strCells s).length := by rw [Lib.strCells_length]; exact hj
        rw [World.cell?_setCells_in g (Lib.strCells s) n w (fun k hk => by rw [Lib.strCells_length] at hk; exact (h7 (n + k) (by omega)).1) j hj', List.getElem?_eq_getElem hj']
      have hout : ∀ j, (j < n ∨ n + s.size ≤ j) → (w.setCells g n (Lib.strCells s)).cell? ⟨g, j, none⟩ = w.cell? ⟨g, j, none⟩ := fun j hj =>
        World.cell?_setCells_out g (Lib.strCells s) n w ⟨g, j, none⟩ (fun _ _ => by rw [Lib.strCells_length]; exact hj)
      refine ⟨g, cap, rfl, h2, Nat.lt_of_lt_of_le h3 (below_setCells g (Nat.zero_le _) (Lib.strCells s) n w (Below.refl 0 w)).size, by rw [List.length_append, hsz]; omega, hroom, h6, fun j hj => ⟨?_, ?_⟩, fun j b hj => ?_⟩
      · rcases Nat.lt_or_ge j n with k | k
        · rw [hout j (.inl k)]; exact (h7 j hj).1
        · rcases Nat.lt_or_ge j (n + s.size) with k2 | k2
          · have := hin (j - n) (by omega)
            rw [show n + (j - n) = j by omega] at this
            rw [this, List.getElem?_eq_getElem (by rw [Lib.strCells_length]; omega)]; rfl
          · rw [hout j (.inr k2)]; exact (h7 j hj).1
      · rw [World.frozen?_setCells]; exact (h7 j hj).2
      · rcases Nat.lt_or_ge j n with k | k
        · rw [hout j (.inl k)]
          rw [List.getElem?_append_left (by omega)] at hj
          exact h8 j b hj
        · rw [List.getElem?_append_right (by omega), ← h4] at hj
          have hlt : j - n < s.size := by
            rcases Nat.lt_or_ge (j - n) s.size with k2 | k2
            · exact k2
            · rw [List.getElem?_eq_none (by omega)] at hj; cases hj
          have := hin (j - n) hlt
          rw [show n + (j - n) = j by omega] at this
          rw [this]
          exact strCells_at s _ b hj
  · have hr := Lib.run_append_grow_string (P := Tryz.prog) w 48 9 ty 5 i0 (.int .u8 0) Tryz.underlying48 Tryz.underlying9 hi0 hz0 ⟨g, 0, none⟩ n cap (Lib.strCells (str l))
      (by rw [Lib.strCells_length, hz1, Nat.mul_one]; exact h4.symm) (fun j u hu => by
        rw [Lib.strCells, List.getElem?_map] at hu
        match hj : (str l).data.toList[j]?, hu with
        | some b, hu => cases hu; rw [add_off, Nat.zero_add]; exact h8 j b hj) s (by omega) (by omega) (by rw [hz2]; exact growslice_fits (by omega) (by omega))
    have hge := grownCap_ge w (n + s.size) cap 5
    have hle := grownCap_le_maxLen w (n + s.size) cap 5 (by unfold maxLen; omega)
    generalize grownCap w (n + s.size) cap 5 = C at hr hge hle
    have hnew : (w.drew.alloc (.cells ((Lib.strCells (str l)).toArray ++ (Lib.strCells s).toArray ++ Builtin.zeroCells (Value.int .u8 0).cells (C - (n + s.size))) 5)).heap[w.heap.size]? = _ := heap_alloc_new w.drew (.cells ((Lib.strCells (str l)).toArray ++ (Lib.strCells s).toArray ++ Builtin.zeroCells (Value.int .u8 0).cells (C - (n + s.size))) 5)
    have hl1 : (Lib.strCells (str l)).length = n := by rw [Lib.strCells_length]; exact h4.symm
    have hl2 : (Lib.strCells s).length = s.size := Lib.strCells_length s
    have hsize : ((Lib.strCells (str l)).toArray ++ (Lib.strCells s).toArray ++ Builtin.zeroCells (Value.int .u8 0).cells (C - (n + s.size))).size = C := by
      rw [Array.size_append, Array.size_append, size_zeroCells, List.size_toArray, List.size_toArray, hl1, hl2, show (Value.int IntKind.u8 0).cells.size = 1 from rfl]; omega
    refine ⟨_, _, hr, ⟨w.heap.size, C, rfl, ?_, by simp, by rw [List.length_append, hsz]; omega, hge, hle, fun j hj => ⟨?_, ?_⟩, fun j b hj => ?_⟩, fun B a hB hbase hb => (hb.drew).alloc (by show B ≤ w.heap.size; omega) _⟩
    · omega
    · rw [cells_row hnew, Array.getElem?_eq_getElem (by rw [hsize]; exact hj)]; rfl
    · exact frozen_of_row _ _ _ _ _ hnew
    · rw [cells_row hnew, Array.append_assoc, Array.getElem?_append, List.size_toArray, hl1]
      rcases Nat.lt_or_ge j n with k | k
      · rw [if_pos k, List.getElem?_toArray]
        rw [List.getElem?_append_left (by omega)] at hj
        exact strCells_at (str l) j b hj
      · rw [if_neg (by omega), Array.getElem?_append, List.size_toArray, hl2]
        rw [List.getElem?_append_right (by omega), ← h4] at hj
        have hlt : j - n < s.size := by
          rcases Nat.lt_or_ge (j - n) s.size with k2 | k2
          · exact k2
          · rw [List.getElem?_eq_none (by omega)] at hj; cases hj
        rw [if_pos hlt, List.getElem?_toArray]
        exact strCells_at s _ b hj

/-- '[]byte(s)'. -/
theorem run_bytes (w : World) (s : ByteArray) (hs : s.size ≤ 100000) : ∃ v w', (convert 9 48 (.string s)).run Tryz.prog w = .ok v w' ∧ OwnB w' w.heap.size v s.size s.data.toList ∧ Below w.heap.size w w' := by
  have hr := Lib.run_convert_string_bytes (P := Tryz.prog) w 9 48 5 s Tryz.underlying9 Tryz.underlying48 Tryz.underlying5
  have hge := grownCap_ge w s.size 0 5
  have hle := grownCap_le_maxLen w s.size 0 5 (by unfold maxLen; omega)
  have hnew := Lib.bytesWorld_at_new w 5 s
  have hsz : (Lib.bytesCells w 5 s).size = grownCap w s.size 0 5 := by
    simp [Lib.bytesCells]
    have : s.data.size = s.size := rfl
    omega
  refine ⟨_, Lib.bytesWorld w 5 s, hr, ⟨w.heap.size, _, rfl, Nat.le_refl _, by rw [Lib.bytesWorld_size]; omega, Array.length_toList.symm, hge, hle, fun j hj => ⟨?_, ?_⟩, fun j b hj => ?_⟩, ⟨rfl, rfl, rfl, by rw [Lib.bytesWorld_size]; omega, fun k hk => Lib.bytesWorld_at_old w _ s k hk⟩⟩
  · rw [cells_row hnew, Array.getElem?_eq_getElem (by rw [hsz]; exact hj)]; rfl
  · simp [World.frozen?, hnew]; omega
  · have hlt : j < s.size := by
      rcases Nat.lt_or_ge j s.size with k | k
      · exact k
      · have hl : s.data.toList.length = s.size := Array.length_toList
        rw [List.getElem?_eq_none (by omega)] at hj; cases hj
    rw [Lib.bytesWorld_cell w _ s j hlt, List.getD_eq_getElem?_getD, hj]; rfl

theorem push_bytes : ∀ (l : List UInt8) (r : ByteArray), (l.map fun b : UInt8 => (b.toNat : Int)).foldl (fun r n => r.push (UInt8.ofNat n.toNat)) r = ⟨r.data ++ l.toArray⟩
  | [], r => by simp
  | b :: l, r => by
    simp only [List.map_cons, List.foldl_cons]
    rw [push_bytes l]
    have : UInt8.ofNat ((b.toNat : Int)).toNat = b := by simp
    rw [this]
    simp [ByteArray.push]
/-- 'string(b)'. -/
theorem run_string (w : World) (base : Nat) (v : Value) (n : Nat) (l : List UInt8) (h : OwnB w base v n l) : (convert 48 9 v).run Tryz.prog w = .ok (.string (str l)) w := by
  obtain ⟨g, cap, rfl, h2, h3, h4, h5, h6, h7, h8⟩ := h
  rw [run_convert_bytes_string (P := Tryz.prog) w 48 9 5 _ _ _ Tryz.underlying48 Tryz.underlying5 Tryz.underlying9]
  have hl : (loadCells ⟨g, 0, none⟩ n).run Tryz.prog w = .ok ((l.map fun b : UInt8 => (b.toNat : Int)).map (Value.int .u8)).toArray w := by
    have := run_loadCells_list (P := Tryz.prog) w ⟨g, 0, none⟩ ((l.map fun b : UInt8 => (b.toNat : Int)).map (Value.int .u8)) (fun j u hu => by
      rw [List.getElem?_map, List.getElem?_map] at hu
      match hj : l[j]?, hu with
      | some b, hu => cases hu; rw [add_off, Nat.zero_add]; exact h8 j b hj)
    rw [List.length_map, List.length_map, ← h4] at this
    exact this
  rw [run_bytesToString (P := Tryz.prog) w _ n cap _ hl, push_bytes]
  simp [str]
end Go.Proofs.YtgpncnnlhhmjaaaGreatDoor
