/- copy of a string, strings.Clone, take, torn, wrote. -/
import Derived.Test.YtghcffpcblficaaLeaf
namespace Go.Proofs.Ytghcffpcblficaa
open Go.RowKit Go.Lib

theorem u8_info : (Try.prog.info? 5).map (fun i => (i.zero, i.size, i.bytes)) = some (some (.int .u8 0), 1, 1) := by kernel_rfl
theorem u8_size : (Try.prog.info? 5).map (·.size) = some 1 := by kernel_rfl
theorem byteCells_splice (cur : List UInt8) (off : Nat) (s : List UInt8) : splice (byteCells cur) off (byteCells s) = byteCells (splice cur off s) := by
  simp [splice, byteCells, List.map_take, List.map_drop]
theorem bytes_one (l : List UInt8) : ∀ v ∈ byteCells l, v.oneCell' = true := by
  intro v hv
  obtain ⟨x, _, rfl⟩ := List.mem_map.1 hv
  rfl
section
variable {P : Program} {w : World}
theorem run_copy_str (dT sT ty elem : TypeId) (dp : Option Addr) (dLen dCap : Nat) (s : ByteArray) (hu : P.underlying dT = some (.slice elem)) (hs : (P.info? elem).map (·.size) = some 1) (g off : Nat) (cur : List UInt8) (t : TypeId)
    (hg : Row w g t (byteCells cur).toArray) (hle : s.size ≤ dLen) (hpos : 0 < s.size → dp = some ⟨g, off, none⟩) (hfit : off + s.size ≤ cur.length) :
    ∃ w', (Builtin.copy_ #[dT, sT] ty #[.slice dp dLen dCap, .string s]).run P w = .ok (goInt s.size) w' ∧ Row w' g t (byteCells (splice cur off (bts s))).toArray ∧ Kept (· = g) w w' := by
  have hN : Nat.min s.size dLen = s.size := Nat.min_eq_left hle
  cases hq : P.info? elem with
  | none => simp [hq] at hs
  | some i =>
    by_cases h0 : s.size = 0
    · have hl0 : bts s = [] := List.eq_nil_of_length_eq_zero (by rw [bts_len]; exact h0)
      have hse : s.data = #[] := by rw [bts] at hl0; simpa using hl0
      refine ⟨w, ?_, by rw [hl0]; simpa [splice] using hg, .refl _ _⟩
      have hx : (ByteArray.extract s 0 0).data = #[] := by
        apply Array.eq_empty_of_size_eq_zero
        have : (ByteArray.extract s 0 0).size = 0 := by simp
        exact this
      rw [h0] at hN
      cases dp with
      | none => simp [Builtin.copy_, run_underlying hu, Builtin.lenOf, Builtin.firstCells, sizeOf, typeInfo, hq, hN, h0, hx]
      | some a => simp [Builtin.copy_, run_underlying hu, Builtin.lenOf, Builtin.firstCells, sizeOf, typeInfo, hq, hN, h0, hx, storeCells]
    · have hdp := hpos (by omega)
      subst hdp
      have hle2 : s.size = s.data.toList.length := (bts_len s).symm
      have hlen : (byteCells s.data.toList).length = s.size := by rw [byteCells_length]; exact hle2.symm
      have hst := Go.run_storeCells_at P g off t (byteCells s.data.toList) 0 (byteCells cur).toArray w hg (by rw [hlen]; simpa [byteCells] using hfit) (bytes_one _)
      have htk : List.take s.size (List.map (fun b : UInt8 => Value.int IntKind.u8 (b.toNat : Int)) s.data.toList) = byteCells s.data.toList := by
        rw [List.take_of_length_le (by rw [List.length_map, ← hle2]; exact Nat.le_refl _)]
        rfl
      rw [hlen] at hst
      simp only [Nat.add_zero] at hst
      refine ⟨w.setRow g (byteCells (splice cur off (bts s))).toArray, ?_, setRow_heap w g _ _ t (0, 0) hg, (Kept.refl (fun k => k = g) w).setRow (.inl rfl) _⟩
      have hrow : (byteCells (splice cur off (bts s))) = (byteCells cur).take off ++ byteCells s.data.toList ++ (byteCells cur).drop (off + s.size) := by
        rw [← byteCells_splice]
        unfold splice
        rw [byteCells_length, bts_len, List.append_assoc]
        rfl
      rw [hrow]
      simp [Builtin.copy_, run_underlying hu, Builtin.lenOf, Builtin.firstCells, sizeOf, typeInfo, hq, hN]
      rw [htk, hst]
      simp [Result.andThen]
theorem wpList_copy_str {ops : Array Oper} {rest : List Oper} {o : Oper} {a : Act} {Q : Exit → Act → World → Prop} (hgd : o.guard = none) (d x : Operand) (dT sT : TypeId)
    (ho : o.op = .call { callee := .builtin .copy, args := #[d, x], argTypes := #[dT, sT] }) (elem : TypeId) (hu : P.underlying dT = some (.slice elem)) (hs : (P.info? elem).map (·.size) = some 1)
    (dp : Option Addr) (dLen dCap : Nat) (s : ByteArray) (hd : a.eval d = .slice dp dLen dCap) (hx : a.eval x = .string s) (g off : Nat) (cur : List UInt8) (t : TypeId)
    (hg : Row w g t (byteCells cur).toArray) (hle : s.size ≤ dLen) (hpos : 0 < s.size → dp = some ⟨g, off, none⟩) (hfit : off + s.size ≤ cur.length)
    (h : ∀ w', Hid (Row w' g t (byteCells (splice cur off (bts s))).toArray) → Kept (· = g) w w' → wpList P ops Q rest (a.put o.dst (goInt s.size)) w') : wpList P ops Q (o :: rest) a w := by
  refine wpList_plain hgd fun K hK => ?_
  obtain ⟨w', hr, h1, h2⟩ := run_copy_str (P := P) (w := w) dT sT o.type elem dp dLen dCap s hu hs g off cur t hg hle hpos hfit
  unfold Oper.wp
  simp [execOp, ho, resolve, invoke, builtin, hd, hx, hr, Result.andThen]
  exact hK _ _ (h w' h1 h2)
end
set_option maxRecDepth 100000 in
theorem wrote_zero (g : Nat) (w : World) (h1 : w.cell? ⟨g, 1, none⟩ = some (.int .i64 0)) : Calls Try.prog 37 #[.pointer (some ⟨g, 0, none⟩)] w fun e w' => e = .returned (.tuple #[]) ∧ w' = w := by
  go_enter Try.func37, Try.ntmps37
  go_wp2
  go_end0
  exact ⟨rfl, rfl⟩
set_option maxRecDepth 100000 in
theorem wrote_more (g n : Nat) (hn : n + 1 ≤ 9223372036854775807) (l0 : Value) (w : World) (h0 : w.cell? ⟨g, 0, none⟩ = some l0) (h1 : w.cell? ⟨g, 1, none⟩ = some (.int .i64 ((n + 1 : Nat) : Int))) (f0 : w.frozen? ⟨g, 0, none⟩ = false) (f1 : w.frozen? ⟨g, 1, none⟩ = false) :
    Calls Try.prog 37 #[.pointer (some ⟨g, 0, none⟩)] w fun e w' => e = .returned (.tuple #[]) ∧ w' = pwr w g ((n : Int) == 0) n := by
  have hc := cutAfter_any g n (by omega) l0 _ w h0 h1 f0 f1
  have HC := Lib.hid hc
  clear hc
  go_enter Try.func37, Try.ntmps37
  go_wp2_with (go_at_call 39; (have e : ((n + 1 : Nat) : Int) - 1 = (n : Int) := by omega); (try rw [e]); (with_reducible refine (HC.out).mono ?_); rintro e w1 ⟨rfl, rfl⟩)
  go_end0
  exact ⟨rfl, rfl⟩
set_option maxRecDepth 100000 in
set_option maxHeartbeats 4000000 in
theorem clone_any (s : ByteArray) (hs : s.size ≤ 4194304) (w : World) : Calls Try.prog 45 #[.string s] w fun e w' => e = .returned (.string s) ∧ Below w.heap.size w w' := by
  by_cases h0 : s.size = 0
  · obtain rfl : s = ⟨#[]⟩ := by
      apply ByteArray.ext
      exact Array.eq_empty_of_size_eq_zero h0
    go_enter Try.func45, Try.ntmps45
    go_wp2
    go_ret
    exact ⟨rfl, Below.refl _ _⟩
  · obtain ⟨i0, hi, hz0, hz1, hz2⟩ := info_parts u8_info
    obtain ⟨n, hn⟩ : ∃ n, n = s.size := ⟨_, rfl⟩
    obtain ⟨M, hM⟩ : ∃ M, M = madeCells (Value.int .u8 0).cells (((n : Nat) : Int).toNat * i0.size) := ⟨_, rfl⟩
    have hml : M.toList = byteCells (List.replicate n 0) := by
      rw [hM, hz1, Nat.mul_one, Int.toNat_natCast]
      show (madeCells #[Value.int .u8 0] n).toList = _
      rw [toList_madeCells_one]
      simp [byteCells]
    have hmk : ∀ W : World, (Instr.makeSlice 40 (.int .i64 (n : Int)) (.int .i64 (n : Int))).run Try.prog W = .ok (.slice (some ⟨W.heap.size, 0, none⟩) n n) (W.alloc (.cells M 5)) := fun W => by
      have h := run_make (P := Try.prog) W 40 5 i0 (.int .u8 0) Try.underlying40 hi hz0 .i64 .i64 (n : Int) (n : Int) (by omega) (by omega) (by rw [hz2]; omega) (by omega)
      rw [← hM] at h
      simpa using h
    have hrow : Row (w.alloc (.cells M 5)) w.heap.size 5 (byteCells (List.replicate n 0)).toArray := by
      rw [← hml]; exact Row.made _ _ _
    have hsp : splice (List.replicate n (0 : UInt8)) 0 (bts s) = bts s := by
      unfold splice
      rw [List.take_zero, List.nil_append, List.drop_of_length_le (by rw [bts_len, List.length_replicate]; omega), List.append_nil]
    have hus : ∀ W : World, Row W w.heap.size 5 (byteCells (bts s)).toArray → (Builtin.unsafeString_ #[80, 3] 9 #[.pointer (some ⟨w.heap.size, 0, none⟩), .int .i64 (n : Int)]).run Try.prog W = .ok (.string s) (W.freeze ⟨w.heap.size, 0, none⟩ n) := fun W hr => by
      have hne : bts s ≠ [] := fun e => h0 (by rw [← bts_len, e]; rfl)
      have := run_unsafeString_row (P := Try.prog) W 80 3 9 5 Try.underlying80 (by kernel_rfl) w.heap.size (bts s).length (by unfold World.shape?; rw [show W.heap[w.heap.size]? = _ from hr]; simp [byteCells]) (bts s) hne (Nat.le_refl _) (by rw [bts_len]; omega)
        (fun j x hx => by
          have e0 : (⟨w.heap.size, 0, none⟩ : Addr).add j = ⟨w.heap.size, j, none⟩ := by unfold Addr.add; split <;> simp_all
          rw [e0]
          exact hr.at (by simp [byteCells, hx]))
      rw [bts_len, ← hn] at this
      rw [this]
      rfl
    have h0n : ((n : Int) == 0) = false := by rw [hn]; simpa using h0
    rw [← hn] at h0 hs
    have hpos : 0 < n := by omega
    have HUS := Lib.hid hus; have HROW := Lib.hid hrow; have HSP := Lib.hid hsp; have HN := Lib.hid hn.symm
    have hsz : (s.size : Int) = (n : Int) := by rw [hn]
    clear hM hml hus hrow hsp hn
    go_enter Try.func45, Try.ntmps45
    go_upto_region 4 with (fail)
    obtain ⟨W1, hW1⟩ : ∃ W, W = w.alloc (.cells M 5) := ⟨_, rfl⟩
    have b1 : Below w.heap.size w W1 := by rw [hW1]; exact below_alloc _ _
    rw [← hW1] at HROW ⊢
    clear hW1
    go_upto_region 5 with ((with_reducible show wpList _ _ _ (Oper.mk (some 12) _ _ _ _ _ :: _) _ _); go_loud (refine wpList_copy_str rfl _ _ 40 9 rfl 5 Try.underlying40 u8_size _ _ _ s (by rfl) (by rfl) w.heap.size 0 (List.replicate n 0) 5 HROW.out (by rw [HN.out]; exact Nat.le_refl _) (fun _ => rfl) (by rw [HN.out]; simp) ?_); intro w2 hr2 hk2)
    rw [HSP.out] at hr2
    have hu2 := HUS.out w2 hr2.out
    have b2 : Below w.heap.size w (w2.freeze ⟨w.heap.size, 0, none⟩ n) := below_freeze (hk2.below b1 (fun k hk => by rw [hk]; exact Nat.le_refl _) b1.size) (p := ⟨w.heap.size, 0, none⟩) (Nat.le_refl _) n
    have hc0 : w2.heap.size = w2.heap.size := rfl
    have B2 := Lib.hid b2
    clear b2 hk2 HUS HROW HN hc0
    go_wp2
    go_ret
    exact ⟨rfl, B2.out⟩
end Go.Proofs.Ytghcffpcblficaa
