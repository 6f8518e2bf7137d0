/- surviving: the pending writes that are named. -/
import Derived.Test.YtghcffpcblficaaFgt
namespace Go.Proofs.Ytghcffpcblficaa
open Go.RowKit Go.Lib

def boolsL (n : Nat) (ks : List Int) : List Value := (List.range n).map fun (j : Nat) => Value.bool (decide ((j : Int) ∈ ks))
theorem boolsL_len (n : Nat) (ks : List Int) : (boolsL n ks).length = n := by simp [boolsL]
theorem boolsL_at {n : Nat} {ks : List Int} {j : Nat} (h : j < n) : (boolsL n ks)[j]? = some (.bool (decide ((j : Int) ∈ ks))) := by simp [boolsL, h]
theorem boolsL_nil (n : Nat) : boolsL n [] = List.replicate n (.bool false) := by
  apply List.ext_getElem
  · simp [boolsL]
  · intro i h1 h2
    simp [boolsL]
theorem boolsL_set {n i : Nat} {ks : List Int} (h : i < n) : (boolsL n ks).toArray.setIfInBounds i (.bool true) = (boolsL n (ks ++ [(i : Int)])).toArray := by
  apply Array.ext'
  simp only [Array.toList_setIfInBounds]
  apply List.ext_getElem?
  intro j
  rw [List.getElem?_set]
  by_cases hj : j < n
  · rw [boolsL_at hj, boolsL_at hj, boolsL_len]
    by_cases hij : i = j
    · subst hij; simp [h]
    · have : ¬ (j : Int) = (i : Int) := by omega
      simp [hij, this]
  · have h1 : i ≠ j := by omega
    simp [boolsL, hj, h1]
theorem boolsL_out {n : Nat} {ks : List Int} {x : Int} (h : ¬ (0 ≤ x ∧ x < n)) : boolsL n (ks ++ [x]) = boolsL n ks := by
  unfold boolsL
  apply List.map_congr_left
  intro j hj
  have hj := List.mem_range.1 hj
  have : ¬ (j : Int) = x := by omega
  simp [this]
theorem new_at (W : World) (t : TypeId) (L : List Value) : ∀ (j : Nat) (u : Value), L[j]? = some u → (W.alloc (.cells L.toArray t)).cell? ((⟨W.heap.size, 0, none⟩ : Addr).add j) = some u :=
  World.news_of_block (B := W.heap.size) (cs := L.toArray) (t := t) (fr := (0, 0)) (heap_alloc_new W _)
theorem bool_info : (Try.prog.info? 4).map (fun i => (i.zero, i.size, i.bytes)) = some (some (.bool false), 1, 1) := by kernel_rfl
/-- Memory while surviving runs. -/
structure Svv (w : World) (n : Nat) (ks : List Int) (lv : Value) (l : List (Nat × ByteArray)) (W : World) : Prop where
  s : Row W w.heap.size 4 (boolsL n ks).toArray
  o : W.ownsRow (w.heap.size + 1) 71 2 lv l.length (flW l)
  b : Below w.heap.size w W
theorem Svv.step {w W Y : World} {n : Nat} {ks : List Int} {lv : Value} {l : List (Nat × ByteArray)} (h : Svv w n ks lv l W) (b : Below W.heap.size W Y) : Svv w n ks lv l Y := ⟨h.s.step b, own_over h.o b, below_step h.b b⟩
theorem Svv.add {w W w1 : World} {n : Nat} {ks : List Int} {lv lv' : Value} {l : List (Nat × ByteArray)} {p : Nat × ByteArray} (h : Svv w n ks lv l W) (hg : W.grownBy w1 lv.ownBlock) (ho : w1.ownsRow (w.heap.size + 1) 71 2 lv' (l.length + 1) (flW l ++ [.int .i64 p.1, .string p.2])) : Svv w n ks lv' (l ++ [p]) w1 :=
  ⟨h.s.grown hg (fun e => own_ne h.s h.o (by decide) e.symm), by rw [flW_snoc, List.length_append]; exact ho, h.b.grown hg h.b.size (fun j ej => Nat.le_trans (Nat.le_succ _) (h.o.lt j ej).1)⟩
set_option maxRecDepth 100000 in
set_option maxHeartbeats 16000000 in
theorem surviving_any (g B : Nat) (l0 l1 x y pv : Value) (pend : List (Nat × ByteArray)) (hp : pend.length ≤ 1000) (w : World) (hr : Row w g 66 #[l0, l1, x, y, pv]) (ho : w.ownsRow B 71 2 pv pend.length (flW pend)) (A : Option Addr) (kc : Nat) (keep : List Int) (hk : Nums w w.heap.size A keep) (hkl : keep.length ≤ 9223372036854775807) :
    Calls Try.prog 40 #[.pointer (some ⟨g, 0, none⟩), .slice A keep.length kc] w fun e w' => ∃ v, e = .returned v ∧ w'.ownsRow w.heap.size 71 2 v (surv (inK keep) pend).length (flW (surv (inK keep) pend)) ∧ Below w.heap.size w w' := by
  obtain ⟨n, hn⟩ : ∃ n, n = pend.length := ⟨_, rfl⟩
  obtain ⟨K, hK⟩ : ∃ K, K = keep.length := ⟨_, rfl⟩
  rw [← hn] at hp ho
  rw [← hK] at hkl ⊢
  obtain ⟨PA, pc, rfl⟩ : ∃ PA pc, pv = .slice PA n pc := by
    rcases ho.2 with ⟨rfl, rfl⟩ | ⟨h, cap, _, rfl, _⟩
    · exact ⟨_, _, rfl⟩
    · exact ⟨_, _, rfl⟩
  have gB : g < w.heap.size := hr.inside
  have c4 : w.cell? ⟨g, 4, none⟩ = some (.slice PA n pc) := hr.at (i := 4) rfl
  obtain ⟨i0, hi, hz0, hz1, hz2⟩ := info_parts bool_info
  obtain ⟨j0, kj, kz0, kz1, kz2⟩ := info_parts wr_info
  obtain ⟨M, hM⟩ : ∃ M, M = madeCells (Value.bool false).cells (((n : Nat) : Int).toNat * i0.size) := ⟨_, rfl⟩
  have hml : M.toList = boolsL n [] := by
    rw [hM, hz1, Nat.mul_one, Int.toNat_natCast, boolsL_nil]
    show (madeCells #[Value.bool false] n).toList = _
    rw [toList_madeCells_one]
  have hmk : ∀ W : World, (Instr.makeSlice 58 (.int .i64 (n : Int)) (.int .i64 (n : Int))).run Try.prog W = .ok (.slice (some ⟨W.heap.size, 0, none⟩) n n) (W.alloc (.cells M 4)) := fun W => by
    have h := run_make (P := Try.prog) W 58 4 i0 (.bool false) Try.underlying58 hi hz0 .i64 .i64 (n : Int) (n : Int) (by omega) (by omega) (by rw [hz2]; omega) (by omega)
    rw [← hM] at h
    simpa using h
  obtain ⟨W0, hW0⟩ : ∃ W0, W0 = w.alloc (.cells M 4) := ⟨_, rfl⟩
  have st : Svv w n [] (.slice none 0 0) [] W0 := by
    rw [hW0]
    refine ⟨?_, World.ownsRow_nil _ _ _ _, below_alloc _ _⟩
    rw [← hml]; exact Row.made _ _ _
  have cellP : ∀ (i : Nat) (p : Nat × ByteArray), pend[i]? = some p → ∃ h, PA = some ⟨h, 0, none⟩ ∧ h < w.heap.size ∧ w.cell? ⟨h, i * 2, none⟩ = some (.int .i64 p.1) ∧ w.cell? ⟨h, i * 2 + 1, none⟩ = some (.string p.2) := fun i p hip => by
    have hlt : i < n := by rw [hn]; exact (List.getElem?_eq_some_iff.1 hip).1
    rcases ho.2 with ⟨_, h0⟩ | ⟨h, cap, cur, hv, _, hg, _⟩
    · omega
    · cases hv
      have k := flW_at hip
      exact ⟨h, rfl, (Array.getElem?_eq_some_iff.1 hg).1, (ho.cellAt _ (by omega)).trans k.1, (ho.cellAt _ (by omega)).trans k.2⟩
  have ST := Lib.hid st; have HK := Lib.hid hk; have HKK := Lib.hid hK; have HN := Lib.hid hn; have CP := Lib.hid cellP; have INF := Lib.hid (And.intro kj (And.intro kz0 (And.intro kz1 kz2)))
  clear st hk hK hn hM hml hr ho cellP hi hz0 hz1 hz2 kj kz0 kz1 kz2
  go_enter Try.func40, Try.ntmps40
  go_upto_region 2 with (fail)
  rw [← hW0]
  clear hW0 hmk
  go_wp2
  go_loopg [7, 19] K (fun kx s7 s19 wr => ∃ k : Nat, s19 = .int .i64 (k : Int) ∧ k + kx = K ∧ Svv w n (keep.take k) (.slice none 0 0) [] wr)
  case atStart => exact ⟨0, rfl, by omega, ST.out⟩
  case round =>
    clear ST
    obtain ⟨k, rfl, hk, hM⟩ := hrel
    by_cases hlt : k < K
    · obtain ⟨z, hz⟩ : ∃ z, keep[k]? = some z := at_lt (by rw [← HKK.out]; exact hlt)
      obtain ⟨bb, o, rfl, hbb, e0⟩ := (HK.out.below hM.b).at hz
      have htk : keep.take (k + 1) = keep.take k ++ [z] := by rw [List.take_add_one, hz]; rfl
      have kLi : (k : Int) < (K : Int) := by omega
      by_cases hin : 0 ≤ z ∧ z < n
      · obtain ⟨hz0, hzn⟩ := hin
        obtain ⟨zi, rfl⟩ : ∃ zi : Nat, z = zi := ⟨z.toNat, by omega⟩
        have hzn' : zi < n := by omega
        have e1 := hM.s.at (i := zi) (v := .bool (decide ((zi : Int) ∈ keep.take k))) (by rw [List.getElem?_toArray]; exact boolsL_at hzn')
        have f1 := hM.s.free zi
        have nx : Svv w n (keep.take (k + 1)) (.slice none 0 0) [] (wr.setCell ⟨w.heap.size, zi, none⟩ (.bool true)) :=
          ⟨by rw [htk, ← boolsL_set hzn']; exact hM.s.stored zi _, World.ownsRow_nil _ _ _ _, hM.b.setCell (p := ⟨w.heap.size, zi, none⟩) (Nat.le_refl _) _⟩
        have NX := Lib.hid nx
        clear nx htk hM hz HK
        generalize decide ((zi : Int) ∈ keep.take k) = bo at e1
        go_wp2
        go_roundg (K - (k + 1))
        case measure => omega
        case rel => exact ⟨k + 1, by go_num, by omega, NX.out⟩
      · have nx : Svv w n (keep.take (k + 1)) (.slice none 0 0) [] wr := by
          rw [htk]; exact ⟨by rw [boolsL_out hin]; exact hM.s, hM.o, hM.b⟩
        have NX := Lib.hid nx
        clear nx htk hM hz HK
        by_cases hz0 : 0 ≤ z
        · have hzn : ¬ z < n := by omega
          have hzd : decide (z < n) = false := decide_eq_false hzn
          clear hin
          go_wp2
          go_roundg (K - (k + 1))
          case measure => omega
          case rel => exact ⟨k + 1, by go_num, by omega, NX.out⟩
        · have hzd : decide (0 ≤ z) = false := decide_eq_false hz0
          clear hin
          go_wp2
          go_roundg (K - (k + 1))
          case measure => omega
          case rel => exact ⟨k + 1, by go_num, by omega, NX.out⟩
    · obtain rfl : k = K := by omega
      have hall : keep.take k = keep := List.take_of_length_le (by rw [← HKK.out]; exact Nat.le_refl _)
      rw [hall] at hM
      have c4' := (hM.b.cell (p := ⟨g, 4, none⟩) gB).trans c4
      have MM := Lib.hid hM
      clear hM hall hlt hk
      go_wp2
      go_loopg [8, 9, 10, 40] n (fun kx s8 s9 s10 s40 wq => ∃ (k : Nat) (SA : Option Addr) (sc : Nat), s40 = .int .i64 (k : Int) ∧ k + kx = n ∧ s8 = .slice SA (surv (inK keep) (pend.take k)).length sc ∧ Svv w n keep (.slice SA (surv (inK keep) (pend.take k)).length sc) (surv (inK keep) (pend.take k)) wq)
      case atStart => exact ⟨0, none, 0, rfl, by omega, rfl, MM.out⟩
      case round =>
        clear MM
        obtain ⟨i, SA, sc, rfl, hi, rfl, hM⟩ := hrel
        by_cases hlt : i < n
        · obtain ⟨p, hpi⟩ : ∃ p, pend[i]? = some p := at_lt (by rw [← HN.out]; exact hlt)
          obtain ⟨hh, rfl, hhB, e0, e1⟩ := CP.out i p hpi
          replace e0 := (hM.b.cell (p := ⟨hh, i * 2, none⟩) hhB).trans e0
          replace e1 := (hM.b.cell (p := ⟨hh, i * 2 + 1, none⟩) hhB).trans e1
          have e2 := hM.s.at (i := i) (v := .bool (decide ((i : Int) ∈ keep))) (by rw [List.getElem?_toArray]; exact boolsL_at hlt)
          have htk : surv (inK keep) (pend.take (i + 1)) = surv (inK keep) (pend.take i) ++ if inK keep i then [p] else [] := by
            have hli : (pend.take i).length = i := by rw [List.length_take, ← HN.out]; omega
            rw [List.take_add_one, hpi]
            show surv (inK keep) (pend.take i ++ [p]) = _
            rw [surv_snoc, hli]
          have hsl : (surv (inK keep) (pend.take i)).length ≤ i := Nat.le_trans (surv_le _ _) (by rw [List.length_take]; omega)
          have kLi : (i : Int) < (n : Int) := by omega
          obtain ⟨off, s⟩ := p
          dsimp only at e0 e1
          have MM := Lib.hid hM; have HTK := Lib.hid htk
          clear hM htk hpi
          go_upto_region 12 with (fail)
          obtain ⟨W1, hW1⟩ : ∃ W1, W1 = wr.alloc (.cells #[.int .i64 off, .string s] 71) := ⟨_, rfl⟩
          rw [← hW1]
          have b1 : Below wr.heap.size wr W1 := by rw [hW1]; exact below_alloc _ _
          have m1 := MM.out.step b1
          have r1 : Row W1 wr.heap.size 71 #[.int .i64 off, .string s] := by rw [hW1]; exact Row.made _ _ _
          obtain ⟨x0, x1, _, _⟩ := r1.two
          replace e2 := m1.s.at (i := i) (v := .bool (decide ((i : Int) ∈ keep))) (by rw [List.getElem?_toArray]; exact boolsL_at hlt)
          have M1 := Lib.hid m1
          clear hW1 b1 m1 r1 e0 e1 MM
          by_cases hb : (i : Int) ∈ keep
          · rw [decide_eq_true hb] at e2
            have hik : inK keep i = true := decide_eq_true hb
            have hnew := new_at W1 71 [.int .i64 off, .string s]
            have m2 := M1.out.step (below_alloc W1 (.cells #[.int .i64 off, .string s] 71))
            have hbase := m2.b.size
            have HNEW := Lib.hid hnew; have M2 := Lib.hid m2; have HB := Lib.hid hb
            have own2 := m2.o
            have hw1s : w.heap.size < W1.heap.size := m2.b.size |> fun _ => M1.out.s.inside
            obtain ⟨L, hL⟩ : ∃ L, L = (surv (inK keep) (pend.take i)).length := ⟨_, rfl⟩
            rw [← hL] at own2 hsl ⊢
            have OWN := Lib.hid own2; have HL := Lib.hid hL
            clear hnew m2 hb own2 hL
            go_wp2_with (at_builtin; go_loud (refine wpList_append_own _ rfl _ _ 64 rfl (w.heap.size + 1) 71 j0 (.agg #[.int .i64 0, .string ⟨#[]⟩]) 2 24 Try.underlying64 INF.out.1 INF.out.2.1 INF.out.2.2.1 INF.out.2.2.2 rfl (by decide) _ _ _ rfl OWN.out ⟨W1.heap.size, 0, none⟩ 1 1 [.int .i64 off, .string s] rfl rfl HNEW.out (by intro u hu; simp only [List.mem_cons, List.not_mem_nil, or_false] at hu; rcases hu with rfl | rfl <;> rfl) (by unfold maxLen; omega) (by omega) (by simp; omega) ?_); intro v' w10 own8 hg8 _; obtain ⟨g', cap', rfl⟩ := ownsRow_succ own8; rw [HL.out] at own8 hg8; have N8 := Lib.hid (Svv.add (p := (off, s)) M2.out hg8 own8); clear own8 hg8)
            go_roundg (n - (i + 1))
            case measure => omega
            case rel => exact ⟨i + 1, some ⟨g', 0, none⟩, cap', by go_num, by omega, by rw [HTK.out, hik, if_pos rfl, List.length_append, HL.out]; rfl, by rw [HTK.out, hik, if_pos rfl]; rw [List.length_append]; exact N8.out⟩
          · rw [decide_eq_false hb] at e2
            have hik : inK keep i = false := decide_eq_false hb
            have hb' := Lib.hid hb
            clear hb
            go_wp2
            go_roundg (n - (i + 1))
            case measure => omega
            case rel => exact ⟨i + 1, SA, sc, by go_num, by omega, by rw [HTK.out, hik, if_neg Bool.false_ne_true, List.append_nil], by rw [HTK.out, hik, if_neg Bool.false_ne_true, List.append_nil]; exact M1.out⟩
        · obtain rfl : i = n := by omega
          have hall : pend.take i = pend := List.take_of_length_le (by rw [← HN.out]; exact Nat.le_refl _)
          rw [hall] at hM ⊢
          have MM := Lib.hid hM
          clear hM hall hlt hi
          go_wp2
          go_ret
          exact ⟨_, rfl, own_less MM.out.o (Nat.le_succ _), MM.out.b⟩
end Go.Proofs.Ytghcffpcblficaa
