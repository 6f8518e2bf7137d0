/- digest.blocks$1 hands over the blocks of the parts, one after the other. -/
import Derived.Test.YtjcamhekhfokhaaDoorRange
import Derived.Test.YtjcamhekhfokhaaDoorSched
import Derived.Lib.BufferWrite
import Derived.Scope
import Derived.WalkMore
import Derived.ControlIn
import Derived.Sort.LoopGhostIn
import Derived.Deep.WholeRow
namespace Go.Proofs.YtjcamhekhfokhaaDoor
open Go.RowKit Go.Shelf

section
variable {F : Fence} {n : Nat} {P : Program} {Q : Exit → Act → World → Prop} {a : Act} {w : World}
theorem stepR_scope {b : Frame} {k : List Item} {cs : List Frame} {c : Code} : step P (lone (b.atR a (.code (.scope c) :: k)) cs w) = .next (lone (b.atR a (.code c :: .inScope c :: k)) cs w) :=
  step_lone_go (by simp [stepG, stepG.exec, Frame.atR])
theorem stepR_inScope {b : Frame} {k : List Item} {cs : List Frame} {c : Code} : step P (lone (b.atR a (.inScope c :: k)) cs w) = .next (lone (b.atR a k) cs w) :=
  step_lone_go (by simp [stepG, stepG.exec, Frame.atR])
/-- A scope of labels whose body jumps to none of them, inside a fence. -/
theorem wpIn_scope {c : Code} (h : c.wpIn F n P (Exit.noGoto Q) a w) : (Code.scope c).wpIn F n P Q a w := by
  intro b k cs hro hb hr
  have h0 : (lone (b.atR a (.code (.scope c) :: k)) cs w).fenced P F := fenced_calm hb hr rfl
  obtain ⟨e, a₁, w₁, hq, harr⟩ := h b (.inScope c :: k) cs hro hb hr
  cases e with
  | normal => exact ⟨.normal, a₁, w₁, hq, .head h0 stepR_scope (StepsIn.trans harr (.one (fenced_calm hb hr rfl) stepR_inScope))⟩
  | exit id =>
    have hx : exitTo id (.inScope c :: k) = exitTo id k := by simp [exitTo]
    exact ⟨_, a₁, w₁, hq, fun k' hk => .head h0 stepR_scope (harr.1 k' (by rw [hx]; exact hk)),
      fun hr' hk => let ⟨k₁, h1, h2⟩ := harr.2 hr' (by rw [hx]; exact hk); ⟨k₁, h1, .head h0 stepR_scope h2⟩⟩
  | goto l => exact hq.elim
  | ret => exact ⟨_, a₁, w₁, hq, .of_steps (.one h0 stepR_scope) harr⟩
  | panic ch => exact ⟨_, a₁, w₁, hq, .of_steps (.one h0 stepR_scope) harr⟩
  | outgrown => exact ⟨_, a₁, w₁, hq, .of_steps (.one h0 stepR_scope) harr⟩
end

section
variable {F : Fence} {n : Nat} {P : Program} {ops : Array Oper} {rest : List Oper} {o : Oper} {a : Act} {w : World} {Q : Exit → Act → World → Prop}
/-- A whole array out of its row, and into its row, inside a fence. -/
theorem loadRowIn (hg : o.guard = none) (ty : TypeId) (x : Operand) (hop : o.op = .load ty x) (g : Nat) (hx : a.eval x = .pointer (some ⟨g, 0, none⟩)) (t : TypeId) (C : Array Value) (hr : Row w g t C) (d : TypeDesc)
    (hu : P.underlying ty = some d) (hd : (match d with | .struct _ | .array _ _ => true | _ => false) = true) (hi : (P.info? ty).map (·.size) = some C.size)
    (hK : wpListIn F n P ops Q rest (a.put o.dst (.agg C)) w) : wpListIn F n P ops Q (o :: rest) a w := by
  refine wpListIn_plain hg fun K hK' => ?_
  unfold Oper.wpIn
  refine ⟨?_, ?_⟩
  · simp [Oper.about, hop]
  · rw [Oper.semAt_plain F _ _ (by rw [hop]; intro c hc'; cases hc')]
    simp only [execOp, hop, hx, Instr.loadAt, Instr.sureAddr, Sem.run_bind, Sem.run_pure, Result.andThen_ok, run_loadVar_row w g t ty C (0, 0) d hr hu hd hi]
    exact hK' _ _ hK
theorem storeRowIn (hg : o.guard = none) (ty : TypeId) (x y : Operand) (hop : o.op = .store ty x y) (g : Nat) (D : Array Value) (hx : a.eval x = .pointer (some ⟨g, 0, none⟩)) (hy : a.eval y = .agg D) (t : TypeId) (C : Array Value) (hr : Row w g t C)
    (hi : (P.info? ty).map (·.size) = some D.size) (hs : C.size = D.size) (h1 : D.all (·.oneCell') = true)
    (hK : wpListIn F n P ops Q rest (a.put o.dst undef) (w.setRow g D)) : wpListIn F n P ops Q (o :: rest) a w := by
  refine wpListIn_plain hg fun K hK' => ?_
  unfold Oper.wpIn
  refine ⟨?_, ?_⟩
  · simp [Oper.about, hop]
  · rw [Oper.semAt_plain F _ _ (by rw [hop]; intro c hc'; cases hc')]
    simp only [execOp, hop, hx, hy, Instr.storeAt, Instr.sureAddr, Sem.run_bind, Sem.run_pure, Result.andThen_ok, run_storeVar_row w g t ty C D hr hi hs h1]
    exact hK' _ _ hK
end

def bytesV (l : List UInt8) : List Value := l.map fun x => Value.int .u8 (x.toNat : Int)
theorem size64 : (Tryd.prog.info? 64).map (·.size) = some 64 := by kernel_rfl
/-- 'copy(dst, s)' of a string, longer than dst or not. -/
theorem copy_cut {P : Program} (w : World) (dT sT ty elem : TypeId) (g o dLen dCap N : Nat) (s : ByteArray) (cur : Array Value) (t : TypeId)
    (hu : P.underlying dT = some (.slice elem)) (hs : (P.info? elem).map (·.size) = some 1) (hg : w.heap[g]? = some (.cells cur t (0, 0))) (hN : Nat.min s.size dLen = N) (hfit : o + N ≤ cur.size) :
    (Builtin.copy_ #[dT, sT] ty #[.slice (some ⟨g, o, none⟩) dLen dCap, .string s]).run P w =
      .ok (goInt N) (w.setRow g (cur.toList.take o ++ bytesV (s.data.toList.take N) ++ cur.toList.drop (o + N)).toArray) := by
  have hle : N ≤ s.data.toList.length := by rw [← hN]; exact Nat.min_le_left _ _
  have hlen : (Lib.byteCells (s.data.toList.take N)).length = N := by rw [Lib.byteCells_length, List.length_take]; omega
  have hst := Go.run_storeCells_at P g o t (Lib.byteCells (s.data.toList.take N)) 0 cur w hg (by rw [hlen]; simpa using hfit) (Lib.byteCells_one _)
  have htk : List.take N (List.map (fun b : UInt8 => Value.int IntKind.u8 (b.toNat : Int)) s.data.toList) = Lib.byteCells (s.data.toList.take N) := by
    rw [← List.map_take]; rfl
  rw [hlen] at hst
  simp only [Nat.add_zero] at hst
  cases hq : P.info? elem with
  | none => simp [hq] at hs
  | some i =>
    simp [Builtin.copy_, run_underlying hu, Builtin.lenOf, Builtin.firstCells, sizeOf, typeInfo, hq, hN]
    rw [htk, hst]
    simp [Result.andThen, bytesV, Lib.byteCells]

def partsL (ps : Nat → ByteArray) : Nat → List UInt8
  | 0 => []
  | j + 1 => partsL ps j ++ (ps j).data.toList
def blk (T : List UInt8) (k : Nat) : List UInt8 := (T.drop (64 * k)).take 64
theorem partsL_le (ps : Nat → ByteArray) {i j : Nat} (h : i ≤ j) : (partsL ps i).length ≤ (partsL ps j).length := by
  induction j with
  | zero => obtain rfl : i = 0 := by omega
            exact Nat.le_refl _
  | succ j ih =>
    rcases Nat.lt_or_ge j i with h1 | h1
    · obtain rfl : i = j + 1 := by omega
      exact Nat.le_refl _
    · have := ih h1
      rw [partsL, List.length_append]; omega
theorem partsL_rest (ps : Nat → ByteArray) (i : Nat) : ∀ k, ∃ r, partsL ps (i + k) = partsL ps i ++ r
  | 0 => ⟨[], by simp⟩
  | k + 1 => by
    obtain ⟨r, h⟩ := partsL_rest ps i k
    exact ⟨r ++ (ps (i + k)).data.toList, by rw [← Nat.add_assoc, partsL, h, List.append_assoc]⟩
theorem part_is (ps : Nat → ByteArray) {j m : Nat} (h : j < m) : (ps j).data.toList = ((partsL ps m).drop (partsL ps j).length).take (ps j).size := by
  obtain ⟨r, hr⟩ := partsL_rest ps (j + 1) (m - (j + 1))
  rw [show j + 1 + (m - (j + 1)) = m by omega] at hr
  rw [hr, partsL, List.append_assoc, List.drop_left, List.take_left' (by simp)]
theorem loadRow {P : Program} {w : World} {g : Nat} {t : TypeId} {C : Array Value} {n : Nat} (h : Row w g t C) (hn : C.size = n) : (loadCellsFrom ⟨g, 0, none⟩ 0 n #[]).run P w = .ok C w := by
  subst hn
  have := run_loadCells_list (P := P) w ⟨g, 0, none⟩ C.toList (fun j v hv => by
    have e0 : (⟨g, 0, none⟩ : Addr).add j = ⟨g, j, none⟩ := by unfold Addr.add; split <;> simp_all
    rw [e0]
    exact h.at (by simpa using hv))
  simpa [loadCells] using this

theorem grown_row (w : World) (g : Nat) (D : Array Value) : w.grownBy (w.setRow g D) (some g) :=
  ⟨rfl, rfl, rfl, by simp, fun i _ hne => setRow_other w g i D (fun e => hne (by rw [e]))⟩
/-- The block's cells when N bytes of l have gone into it from place f on. -/
def fillA (C : Array Value) (f N : Nat) (l : List UInt8) : Array Value := (C.toList.take f ++ (bytesV (l.take N) ++ C.toList.drop (f + N))).toArray
theorem fillA_size {C : Array Value} {f N : Nat} {l : List UInt8} (hC : C.size = 64) (hf : f + N ≤ 64) (hl : N ≤ l.length) : (fillA C f N l).size = 64 := by
  simp [fillA, bytesV, hC]; omega
theorem fillA_at {C : Array Value} {f N : Nat} {l T : List UInt8} {o i : Nat} (hC : C.size = 64) (hf : f + N ≤ 64) (hl : N ≤ l.length) (hi : i < f + N)
    (hc : ∀ i, i < f → C[i]? = some (.int .u8 ((T.getD (o + i) 0).toNat : Int))) (hT : ∀ j, j < N → l[j]? = T[o + f + j]?) : (fillA C f N l)[i]? = some (.int .u8 ((T.getD (o + i) 0).toNat : Int)) := by
  unfold fillA
  rw [List.getElem?_toArray]
  rcases Nat.lt_or_ge i f with h | h
  · rw [List.getElem?_append_left (by simp [hC]; omega), List.getElem?_take_of_lt h]
    have := hc i h
    simpa using this
  · rw [List.getElem?_append_right (by simp [hC]; omega), List.getElem?_append_left (by simp [bytesV, hC]; omega)]
    have e : i - (C.toList.take f).length = i - f := by simp [hC]; omega
    rw [e, bytesV, List.getElem?_map, List.getElem?_take_of_lt (by omega)]
    have hj := hT (i - f) (by omega)
    rw [show o + f + (i - f) = o + i by omega] at hj
    rw [List.getD_eq_getElem?_getD, ← hj, List.getElem?_eq_getElem (show i - f < l.length by omega)]; rfl
theorem blk_is {T : List UInt8} {C : Array Value} {k : Nat} (hC : C.size = 64) (hk : 64 * k + 64 ≤ T.length) (h : ∀ i, i < 64 → C[i]? = some (.int .u8 ((T.getD (64 * k + i) 0).toNat : Int))) : C = blkA (blk T k) := by
  have hl : (blk T k).length = 64 := by simp [blk]; omega
  apply Array.ext_getElem?
  intro i
  by_cases hi : i < 64
  · rw [h i hi, blkA_at _ _ (by omega), byteN]
    congr 3
    simp only [List.getD_eq_getElem?_getD, blk, List.getElem?_take_of_lt hi, List.getElem?_drop]
  · rw [Array.getElem?_eq_none (by omega), Array.getElem?_eq_none (by simp [blkA, hl]; omega)]

section
attribute [local go_sem] Oper.semAt_some
set_option maxRecDepth 100000 in
set_option maxHeartbeats 1000000 in
theorem blocks_hands (F : Fence) (nn : Nat) (h61 : F.fn 61) (hro : F.round = none) (hn : 1 ≤ nn) (Bn Bs pb po m c : Nat) (ps : Nat → ByteArray) (w : World)
    (hBn : Bn < w.heap.size) (hBs : Bs < w.heap.size) (hpb : pb < w.heap.size) (hne1 : Bn ≠ Bs) (hne2 : pb ≠ Bs) (hm : m ≤ 1000) (hT : (partsL ps m).length ≤ 1099511627776)
    (hbox : w.cell? ⟨Bn, 0, none⟩ = some (.slice (some ⟨pb, po, none⟩) m c)) (hps : ∀ j, j < m → w.cell? ⟨pb, po + j, none⟩ = some (.string (ps j))) :
    Hands F nn Tryd.prog 61 #[.pointer (some ⟨Bn, 0, none⟩)] (fun k => #[.agg (blkA (blk (partsL ps m) k))]) ((partsL ps m).length / 64) Bs w := by
  intro l J W hW hJ hY h0
  have kB : W.cell? ⟨Bn, 0, none⟩ = some (.slice (some ⟨pb, po, none⟩) m c) := by rw [← hbox]; exact World.cell?_of_block (hW.block Bn hBn (by simp))
  have kps : ∀ j, j < m → W.cell? ⟨pb, po + j, none⟩ = some (.string (ps j)) := fun j hj => by rw [← hps j hj]; exact World.cell?_of_block (hW.block pb hpb (by simp))
  have sW := hW.size
  have hBW : Bn < W.heap.size := by omega
  have hpW : pb < W.heap.size := by omega
  have KP := Lib.hid kps; have HW := Lib.hid hW
  clear hbox hps hW kps
  refine callsIn_of_wp Tryd.func61 rfl h61 ?_ hro
  simp only [Tryd.ntmps61, List.size_toArray, List.length_cons, List.length_nil, Nat.reduceAdd, Nat.reduceSub, Array.replicate_succ, Array.replicate_zero, List.push_toArray, List.append_toArray, List.nil_append, List.cons_append]
  gi_wp2
  refine wpIn_scope ?_
  gi_wp2
  refine wpIn_label ?_
  gi_wp2
  gi_loopg [4, 10] m (fun g p4 p10 wr => ∃ (j k f : Nat) (C : Array Value), p10 = .int .i64 j ∧ j + g = m ∧ p4 = .int .i64 f ∧ f < 64 ∧ (partsL ps j).length = 64 * k + f ∧ J k wr ∧ Row wr W.heap.size 64 C ∧ C.size = 64 ∧
    (∀ i, i < f → C[i]? = some (.int .u8 (((partsL ps m).getD (64 * k + i) 0).toNat : Int))) ∧ (∀ j, j < m → wr.cell? ⟨pb, po + j, none⟩ = some (.string (ps j))))
  case atStart =>
    refine ⟨0, 0, 0, _, rfl, by omega, rfl, by omega, rfl, ?_, Row.made _ _ _, rfl, fun i hi => absurd hi (by omega), fun j hj => ?_⟩
    · exact hJ _ _ _ none h0 (World.grownBy_alloc W _ none) (by simp)
    · rw [← KP.out j hj]; exact World.cell?_of_block (Below.heap_alloc W _ pb (by omega))
  case round =>
    obtain ⟨j, k, f, C, rfl, hj, rfl, hf, hlen, hJk, hrow, hC, hc, hp⟩ := hrel
    cases gk with
    | zero =>
      obtain rfl : j = m := by omega
      have hK : (partsL ps j).length / 64 = k := by omega
      have HK := Lib.hid hK; have HJ := Lib.hid hJk
      clear hK hJk hrow hc hp hlen
      gi_wp2
      rw [Exit.noGoto_normal]
      go_end0
      exact ⟨⟨_, rfl⟩, by rw [HK.out]; exact HJ.out⟩
    | succ g =>
      have cj := hp j (by omega)
      have hjm : (j : Int) < (m : Int) := by omega
      have HP := Lib.hid hp; have HJ := Lib.hid hJk; have HR := Lib.hid hrow; have HC := Lib.hid hc; have HS := Lib.hid hC; have HL := Lib.hid hlen
      clear hp hJk hrow hc hC hlen
      gi_wp2
      gi_loopg [4, 6] (ps j).size (fun gi q4 q6 wx => ∃ (k f : Nat) (C : Array Value) (s : ByteArray), q4 = .int .i64 f ∧ f < 64 ∧ q6 = .string s ∧ gi = s.size ∧ 64 * k + f + s.size = (partsL ps (j + 1)).length ∧ s.data.toList = ((partsL ps m).drop (64 * k + f)).take s.size ∧
        J k wx ∧ Row wx W.heap.size 64 C ∧ C.size = 64 ∧ (∀ i, i < f → C[i]? = some (.int .u8 (((partsL ps m).getD (64 * k + i) 0).toNat : Int))) ∧ (∀ j, j < m → wx.cell? ⟨pb, po + j, none⟩ = some (.string (ps j))))
      case atStart =>
        refine ⟨k, f, C, ps j, rfl, hf, rfl, rfl, ?_, ?_, HJ.out, HR.out, HS.out, HC.out, HP.out⟩
        · rw [← HL.out, partsL, List.length_append]; simp
        · rw [← HL.out]; exact part_is ps (by omega)
      case round =>
        clear HJ HR HC HS HL HP cj
        obtain ⟨k2, f2, C2, s, rfl, hf2, rfl, rfl, hlen, hs, hJk, hrow, hC, hc, hp⟩ := hrel
        have hle := partsL_le ps (show j + 1 ≤ m by omega)
        by_cases hshort : s.size < 64 - f2
        · have hN : Nat.min s.size (64 - f2) = s.size := Nat.min_eq_left (by omega)
          have hcp := copy_cut (P := Tryd.prog) wr 43 9 3 5 W.heap.size f2 (64 - f2) (64 - f2) s.size s C2 64 Tryd.underlying43 (by kernel_rfl) hrow hN (by omega)
          have f64 : (f2 : Int) ≤ 64 := by omega
          have f0 : (0 : Int) ≤ (f2 : Int) := by omega
          have fne : ¬ (64 = f2) := by omega
          have HJ := Lib.hid hJk; have HR := Lib.hid hrow; have HS := Lib.hid hC; have HC := Lib.hid hc; have HP := Lib.hid hp; have HX := Lib.hid hs; have HL := Lib.hid hlen
          clear hJk hrow hC hc hp hs hlen hN
          gi_wp2
          gi_roundg g
          case rel =>
            have hT : ∀ i, i < s.size → s.data.toList[i]? = (partsL ps m)[64 * k2 + f2 + i]? := fun i hi => by rw [HX.out, List.getElem?_take_of_lt hi, List.getElem?_drop]
            refine ⟨j + 1, k2, f2 + s.size, fillA C2 f2 s.size s.data.toList, by go_num, by omega, by go_num, by omega, by have := HL.out; omega, ?_, HR.out.whole _, fillA_size HS.out (by omega) (by simp), ?_, ?_⟩
            · exact hJ _ _ _ _ HJ.out (grown_row _ _ _) (fun r e => by cases e; exact Nat.le_refl _)
            · exact fun i hi => fillA_at HS.out (by omega) (by simp) hi HC.out hT
            · exact fun j' hj' => by rw [cell_setRow_other _ _ _ _ (by show pb ≠ _; omega)]; exact HP.out j' hj'
          case measure => omega
        · obtain ⟨N, hNd⟩ : ∃ N, N = 64 - f2 := ⟨_, rfl⟩
          have hN : Nat.min s.size (64 - f2) = N := by rw [hNd]; exact Nat.min_eq_right (by omega)
          have hcp := copy_cut (P := Tryd.prog) wr 43 9 3 5 W.heap.size f2 (64 - f2) (64 - f2) N s C2 64 Tryd.underlying43 (by kernel_rfl) hrow hN (by omega)
          have hT : ∀ i, i < N → s.data.toList[i]? = (partsL ps m)[64 * k2 + f2 + i]? := fun i hi => by rw [hs, List.getElem?_take_of_lt (by omega), List.getElem?_drop]
          have hkT : 64 * k2 + 64 ≤ (partsL ps m).length := by omega
          obtain ⟨D, hD⟩ : ∃ D, D = blkA (blk (partsL ps m) k2) := ⟨_, rfl⟩
          have hfill : fillA C2 f2 N s.data.toList = D := by
            rw [hD]
            exact blk_is (fillA_size hC (by omega) (by simp; omega)) hkT (fun i hi => fillA_at hC (by omega) (by simp; omega) (by omega) hc hT)
          have sD : D.size = 64 := by rw [← hfill]; exact fillA_size hC (by omega) (by simp; omega)
          rw [List.append_assoc] at hcp
          change _ = Result.ok _ (wr.setRow _ (fillA C2 f2 N s.data.toList)) at hcp
          rw [hfill] at hcp
          have z64 : (Tryd.prog.info? 64).map (·.size) = some D.size := by rw [sD]; exact size64
          have Z64 := Lib.hid z64; clear z64
          have hJX : J k2 (wr.setRow W.heap.size D) := hJ _ _ _ _ hJk (grown_row _ _ _) (fun r e => by cases e; exact Nat.le_refl _)
          have hy := hY k2 _ (by omega) hJX
          rw [← hD] at hy
          obtain ⟨fn, tmps, assign, body, hy1, hR⟩ := hy
          have f64 : (f2 : Int) ≤ 64 := by omega
          have f0 : (0 : Int) ≤ (f2 : Int) := by omega
          have fne : ¬ (64 = f2) := by omega
          have n0 : (0 : Int) ≤ (N : Int) := by omega
          have n1 : (N : Int) ≤ (s.size : Int) := by omega
          have n3 : (N : Int) ≤ 64 := by omega
          have n2 : ¬ ((f2 : Int) + (N : Int) < 64) := by omega
          have HR := Lib.hid hrow; have HP := Lib.hid hp; have HX := Lib.hid hs; have HL := Lib.hid hlen; have HN := Lib.hid hNd; have HK := Lib.hid hkT; have SD := Lib.hid sD
          clear hJk hrow hC hc hp hs hlen hN hNd hD hfill hJX hT hkT sD
          gi_wp2_with ((with_reducible refine loadRowIn (o := ⟨some 27, _, _, _, _, _⟩) rfl 64 (.tmp 3) rfl W.heap.size ?_ 64 D ?_ _ Tryd.underlying64 ?_ ?_ ?_); exact rfl; exact HR.out.whole D; exact rfl; exact Z64.out)
          refine hR.mono ?_
          rintro e Y ⟨rfl, hJ3, hg3⟩
          gi_wp2
          gi_roundg (s.size - N)
          case rel =>
            have hz : (s.extract N s.size).size = s.size - N := by simp
            have hx : (s.extract N s.size).data.toList = s.data.toList.drop N := by
              simp only [ByteArray.data_extract, Array.toList_extract, List.extract]
              exact List.take_of_length_le (by simp)
            have hN := HN.out; have hL := HL.out
            refine ⟨k2 + 1, 0, D, s.extract N s.size, rfl, by omega, rfl, hz.symm, ?_, ?_, hJ3, (HR.out.whole D).grown hg3 (fun e => by injection e with e; omega), SD.out, fun i hi => absurd hi (by omega), fun j' hj' => ?_⟩
            · rw [hz]; omega
            · rw [hx, hz, HX.out, List.drop_take, List.drop_drop, show 64 * k2 + f2 + N = 64 * (k2 + 1) + 0 by omega]
            · rw [World.cell?_of_block (hg3.block pb (by rw [setRow_size]; exact World.block_lt_of_cell? _ _ (HP.out j' hj')) (fun e => by injection e with e; exact hne2 e)), cell_setRow_other _ _ _ _ (by show pb ≠ _; omega)]
              exact HP.out j' hj'
          case measure => have := HN.out; omega
end
end Go.Proofs.YtjcamhekhfokhaaDoor
