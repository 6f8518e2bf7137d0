/- findings: what was asked, in order. -/
import Derived.Test.YtiglkecmamnphaaAs
namespace Go.Proofs.Ytiglkecmamnphaa
open Go.RowKit Go.Sort Go.Lib Go.Maps

theorem sortsI (m : Nat) : AnyZI.SortsIn Try.prog Try.laysSorted_ren Fence.wide m :=
  ⟨fun blk off cap ss W hH hblk hsz => callsIn_wide.2 (AnyM.slices_Sort_int Try.laysSlM5_f50 blk off cap ss W hH hblk hsz),
   fun p cap W => callsIn_wide.2 (AnyM.slices_Sort_int_none Try.laysSlM5_f50 p cap W)⟩
theorem keys_any (gm : Nat) (w : World) : Calls Try.prog 48 #[.map (some gm)] w fun e w' => e = .returned (.func (.func 63) #[] #[.pointer (some ⟨w.heap.size, 0, none⟩)]) ∧ w' = w.alloc (.cells #[.map (some gm)] 93) :=
  (callsIn_wide (n := 5)).1 (AnyZI.keys_in Try.laysKeys Fence.wide 5 trivial rfl (some gm) w)
set_option maxHeartbeats 1000000 in
theorem sorted_any (gm n : Nat) (D : DataW Unit) (w : World) (hown : w.ownsMap Try.prog 3 fdR gm n D) (hn : Maps.size D ≤ 1000) :
    Calls Try.prog 47 #[.func (.func 63) #[] #[.pointer (some ⟨w.heap.size, 0, none⟩)]] (w.alloc (.cells #[.map (some gm)] 93)) fun e w' => ∃ (v : Value) (ss : List Int), e = .returned v ∧ ss.Perm (intKeys D) ∧ w'.ownsRow (w.heap.size + 1) 3 1 v ss.length (iC (ss.mergeSort (fun x y => decide (x ≤ y)))) ∧ Below (w.heap.size + 1) (w.alloc (.cells #[.map (some gm)] 93)) w' := by
  have hseq : SeqGives Fence.wide 2 Try.prog 63 #[.pointer (some ⟨w.heap.size, 0, none⟩)] encZ (fun ss => ss.Perm (intKeys D)) (Maps.size D) (w.alloc (.cells #[.map (some gm)] 93)) :=
    AnyZI.keys_gives (ρ := Try.laysKeys_ren) { Try.laysKeys with } Fence.wide _ trivial rfl (by omega) w.heap.size gm n D _ (by simp) (by simp) (hown.alloc _)
  have cS := AnyZI.sorted_in Try.laysSorted Fence.wide 5 trivial trivial trivial trivial rfl (by omega) (sortsI _) (enters_of Try.func50 (by kernel_rfl) rfl) 63 #[.pointer (some ⟨w.heap.size, 0, none⟩)] trivial (enters_of Try.func63 (by kernel_rfl) rfl) _ _ (by unfold maxLen; omega) (by omega) _ hseq
  refine ((callsIn_wide (n := 5)).1 cS).mono fun e w' ⟨v, ss, he, hp, ho, _, hb⟩ => ⟨v, ss, he, hp, ?_, ?_⟩
  · rw [World.size_alloc] at ho
    exact ho
  · rw [World.size_alloc] at hb
    exact hb

/-- The finding about k. -/
def pickF (S : List Fd) (k : Int) : Fd := (S.find? fun f => decide (f.1 = k)).getD (0, false, 0, 0)
theorem pickF_mem {S : List Fd} {k : Int} (h : Asked S k) : pickF S k ∈ S ∧ (pickF S k).1 = k := by
  obtain ⟨f, hf, e⟩ := h
  unfold pickF
  cases hh : S.find? fun f => decide (f.1 = k) with
  | none =>
    have := List.find?_eq_none.1 hh f hf
    simp [e] at this
  | some g =>
    have h1 := List.find?_some hh
    exact ⟨List.mem_of_find?_eq_some hh, by simpa using h1⟩
/-- The numbers about which something was found, in order. -/
theorem keys_perm {b : Bk} {q : Qn} {S : List Fd} {W : World} {gm : Nat} {D : DataW Unit} (hown : W.ownsMap Try.prog 3 fdR gm S.length D) (hhas : ∀ n : Int, Maps.has D (.int .i64 n) = S.any fun f => decide (f.1 = n)) (hc : Cld b q S) : (S.map (·.1)).Perm (intKeys D) := by
  refine CollectedI.perm (left := fun _ => false) ⟨?_, fun x => ?_⟩ hown key_law Try.underlying3 (fun _ => rfl)
  · unfold List.Nodup
    rw [List.pairwise_map]
    exact hc.2
  · rw [hhas]
    simp only [List.any_eq_true, decide_eq_true_eq, List.mem_map, and_true]
theorem asc_of_keys : ∀ {ks : List Int} {d : Int} {F : Int → Fd}, (∀ k ∈ ks, (F k).1 = k) → ks.Pairwise (· < ·) → (∀ k ∈ ks, d < k) → Asc d (ks.map F)
  | [], _, _, _, _, _ => trivial
  | k :: ks, d, F, h, hp, hd => by
    rw [List.pairwise_cons] at hp
    have e := h k (List.mem_cons_self ..)
    refine ⟨by rw [e]; exact hd k (List.mem_cons_self ..), ?_⟩
    rw [e]
    exact asc_of_keys (fun x hx => h x (List.mem_cons_of_mem _ hx)) hp.2 hp.1
/-- The list of all that was found is a proof about n. -/
theorem list_proves {b : Bk} {q : Qn} (hlow : LowB b) {S : List Fd} {ss : List Int} {n : Int} (hc : Cld b q S) (hp : ss.Perm (S.map (·.1))) (hn : ∀ g ∈ S, g.1 ≤ n) (hx : Asked S n) :
    provesB b q ((ss.mergeSort fun x y => decide (x ≤ y)).map (pickF S)) n = true ∧ (∀ k ∈ ss.mergeSort (fun x y => decide (x ≤ y)), Asked S k) := by
  obtain ⟨ks, hks⟩ : ∃ ks, ks = ss.mergeSort fun x y => decide (x ≤ y) := ⟨_, rfl⟩
  rw [← hks]
  have hperm : ks.Perm (S.map (·.1)) := by rw [hks]; exact (List.mergeSort_perm ss _).trans hp
  have hmem : ∀ k, k ∈ ks ↔ Asked S k := fun k => by
    rw [hperm.mem_iff, List.mem_map]
    rfl
  have hnd : (S.map (·.1)).Nodup := by
    unfold List.Nodup
    rw [List.pairwise_map]
    exact hc.2
  have hle : ks.Pairwise (· ≤ ·) := by
    rw [hks]
    have := List.pairwise_mergeSort (le := fun x y : Int => decide (x ≤ y)) (fun a b c => by simp; omega) (fun a b => by simp; omega) ss
    exact this.imp fun {a b} h => by simpa using h
  have hlt : ks.Pairwise (· < ·) := by
    have h2 : ks.Nodup := hperm.nodup_iff.2 hnd
    unfold List.Nodup at h2
    exact (hle.and h2).imp fun {a b} h => by omega
  have hF : ∀ k ∈ ks, pickF S k ∈ S ∧ (pickF S k).1 = k := fun k hk => pickF_mem ((hmem k).1 hk)
  refine ⟨cld_proves hlow hc (fun g => ?_) (asc_of_keys (fun k hk => (hF k hk).2) hlt fun k hk => ?_) hn hx, fun k hk => (hmem k).1 hk⟩
  · rw [List.mem_map]
    constructor
    · rintro ⟨k, hk, rfl⟩
      exact (hF k hk).1
    · intro hg
      have hk : g.1 ∈ ks := (hmem g.1).2 ⟨g, hg, rfl⟩
      exact ⟨g.1, hk, hc.key (hF _ hk).1 hg (hF _ hk).2⟩
  · have h1 := hF k hk
    have h2 := (hc.1 _ h1.1).1.1
    omega
/-- 'm[k]' at the map of findings. -/
theorem lookF {w : World} {ops : Array Oper} {rest : List Oper} {op : Oper} {a : Act} {Q : Exit → Act → World → Prop} (hg : op.guard = none) (m x : Operand) (hop : op.op = Op.lookup 93 m x false) (gm n : Nat) (D : DataW Unit) (f : Fd) (k : Int)
    (hm : a.eval m = .map (some gm)) (hown : w.ownsMap Try.prog 3 fdR gm n D) (hx : a.eval x = .int .i64 k) (hkey : keyOf Try.prog 3 (.int .i64 k) = some (.int .i64 k)) (hat : ∀ z, D.atKey (.int .i64 k) z = encF f)
    (hK : wpList Try.prog ops Q rest (a.put op.dst (.agg (fdC f))) w) : wpList Try.prog ops Q (op :: rest) a w := by
  refine wpList_plain hg fun K' hK' => ?_
  obtain ⟨v, ps, hrun, hv⟩ := hown.lookup key_law Try.underlying93 (zeroF _) (fdR_mk (0, false, 0, 0)) hkey
  rw [hat] at hv
  obtain ⟨g, rfl, he⟩ := fdR_inv hv
  obtain rfl : f = g := encF_inj (congrArg Prod.fst he)
  unfold Oper.wp
  simp [execOp, hop, hm, hx, hrun, Result.andThen]
  exact hK' _ _ hK
abbrev flatF (l : List Fd) : List Value := l.flatMap fun f => (fdC f).toList
theorem flatF_len (l : List Fd) : (flatF l).length = l.length * 4 := by
  induction l with
  | nil => rfl
  | cons f l ih =>
    show ((fdC f).toList ++ flatF l).length = _
    rw [List.length_append, ih]
    simp [fdC]
    omega
theorem flatF_snoc (l : List Fd) (f : Fd) : flatF (l ++ [f]) = flatF l ++ (fdC f).toList := by simp [flatF]
theorem fd_info : (Try.prog.info? 63).map (fun i => (i.zero, i.size, i.bytes)) = some (some (.agg #[.int .i64 0, .bool false, .int .i64 0, .int .i64 0]), 4, 32) := by kernel_rfl
theorem fd_new (w : World) (f : Fd) : ∀ j u, ((fdC f).toList)[j]? = some u → (w.alloc (.cells (fdC f) 63)).cell? ((⟨w.heap.size, 0, none⟩ : Addr).add j) = some u := by
  intro j u hu
  have hr := Row.made w 63 (fdC f)
  have h1 : (fdC f)[j]? = some u := by rw [← Array.getElem?_toList]; exact hu
  have := hr.at h1
  cases j with
  | zero => exact this
  | succ j => simpa [Addr.add] using this
theorem fd_one (f : Fd) : ∀ u ∈ (fdC f).toList, u.oneCell' = true := by
  intro u hu
  simp [fdC] at hu
  rcases hu with rfl | rfl | rfl | rfl <;> rfl
/-- A row of the call's own, as a list of findings. -/
theorem own_fds {w : World} {B n cap : Nat} {e : TypeId} {A : Option Addr} {l : List Fd} (hn : n = l.length) (h : w.ownsRow B e 4 (.slice A n cap) n (flatF l)) : FdsC w A l := by
  intro i x hx
  rcases h.2 with ⟨_, h0⟩ | ⟨g, cap', cur, hv, hB, hg, hcap, _, _, ht⟩
  · obtain ⟨h1, _⟩ := List.getElem?_eq_some_iff.1 hx
    omega
  · cases hv
    have hlt : g < w.heap.size := by
      rcases Nat.lt_or_ge g w.heap.size with k | k
      · exact k
      · rw [Array.getElem?_eq_none k] at hg; cases hg
    obtain ⟨h1, h2⟩ := List.getElem?_eq_some_iff.1 hx
    have hcell : ∀ j, j < 4 → w.cell? ⟨g, 0 + i * 4 + j, none⟩ = (fdC x).toList[j]? := fun j hj => by
      have hc := h.cellAt (i * 4 + j) (by rw [hn]; omega)
      rw [Nat.zero_add, hc]
      have key : ∀ (l : List Fd) (i : Nat) (x : Fd), l[i]? = some x → (flatF l)[i * 4 + j]? = (fdC x).toList[j]? := by
        intro l
        induction l with
        | nil => intro i x hx; simp at hx
        | cons f l ih =>
          intro i x hx
          have e : flatF (f :: l) = (fdC f).toList ++ flatF l := by simp [flatF]
          rw [e]
          cases i with
          | zero =>
            cases hx
            rw [Nat.zero_mul, Nat.zero_add, List.getElem?_append_left (by simp [fdC]; omega)]
          | succ i =>
            rw [List.getElem?_append_right (by simp [fdC]; omega)]
            have := ih i x (by simpa using hx)
            rw [← this]
            congr 1
            simp [fdC]
            omega
      exact key l i x hx
    refine ⟨g, 0, rfl, hlt, ?_, ?_, ?_, ?_⟩
    · exact hcell 0 (by omega)
    · exact hcell 1 (by omega)
    · exact hcell 2 (by omega)
    · exact hcell 3 (by omega)

set_option maxRecDepth 100000 in
set_option maxHeartbeats 16000000 in
theorem findings_any (b : Bk) (q : Qn) (hlow : LowB b) (hc20 : b.cls.length ≤ 20) (hf20 : b.fct.length ≤ 20) (cv rv fv av bv : Value) (n : Int) (h0 : 0 ≤ n) (h1 : n < 20) (w : World) (hw : VwV w w.heap.size cv rv fv av bv b q) :
    Calls Try.prog 32 #[.agg #[cv, rv, fv, av, bv], .int .i64 n] w fun e w' => ∃ (A : Option Addr) (c : Nat) (l : List Fd), e = .returned (.slice A l.length c) ∧ provesB b q l n = true ∧ w'.ownsRow w.heap.size 63 4 (.slice A l.length c) l.length (flatF l) ∧ Below w.heap.size w w' := by
  have hmm := @run_makeMap Try.prog
  have hask := fun (gm g5 g2 g6 : Nat) => ask_any (b := b) (q := q) (cv := cv) (rv := rv) (fv := fv) (av := av) (bv := bv) (gm := gm) (g5 := g5) (g2 := g2) (g6 := g6) hlow hc20 hf20 20 n h0 h1 h1
  obtain ⟨W1, hW1⟩ : ∃ W1, W1 = (((w.alloc (.cells #[cv, rv, fv, av, bv] 79)).alloc (.map #[] 0)).alloc (.cells #[.map (some (w.heap.size + 1))] 93)).alloc (.cells #[.func (.func 45) #[] #[.pointer (some ⟨w.heap.size + 1 + 1, 0, none⟩), .pointer (some ⟨w.heap.size, 0, none⟩), .pointer (some ⟨w.heap.size + 1 + 1 + 1, 0, none⟩)]] 94) := ⟨_, rfl⟩
  have hb1 : Below w.heap.size w W1 := by rw [hW1]; exact keep_alloc (keep_alloc (keep_alloc (below_alloc _ _) _) _) _
  have hat : AtS b q cv rv fv av bv (w.heap.size + 1) (w.heap.size + 1 + 1) w.heap.size (w.heap.size + 1 + 1 + 1) [] W1 := by
    have hmp : MapIs W1 (w.heap.size + 1) [] := by
      have h := MapIs.made (w.alloc (.cells #[cv, rv, fv, av, bv] 79))
      rw [World.size_alloc] at h
      rw [hW1]
      exact (h.step (below_alloc _ _)).step (below_alloc _ _)
    refine ⟨?_, ?_, ?_, hw.deep hb1, hmp, ⟨(fun f hf => by cases hf), List.Pairwise.nil⟩⟩
    · rw [hW1]; exact ((Row.made_at _ _ _ (by simp)).later _).at rfl
    · rw [hW1]; exact ((((Row.made w _ _).later _).later _).later _)
    · rw [hW1]; exact (Row.made_at _ _ _ (by simp)).at rfl
  have c6 := hat.c6
  have HASK := Lib.hid (hask (w.heap.size + 1) (w.heap.size + 1 + 1) w.heap.size (w.heap.size + 1 + 1 + 1) true [] W1 hat)
  have HA := Lib.hid hat; have HB := Lib.hid hb1
  clear hask hat hb1 hw
  go_enter Try.func32, Try.ntmps32
  go_upto_region 4 with (fail)
  rw [← hW1]
  clear hW1
  go_upto_region 6 with (first
    | (go_at_call 45; (with_reducible refine HASK.out.mono ?_); rintro e w2 ⟨S, rfl, hgr, hasked, hat, hwg⟩; have GR := Lib.hid hgr; have AS := Lib.hid hasked; have AT := Lib.hid hat; have WG := Lib.hid hwg; clear hgr hasked hat hwg)
    | fail)
  obtain ⟨D, hown, hhas, hat⟩ := AT.out.mp
  have hsz : Maps.size D ≤ 1000 := Nat.le_trans hown.size_le (Nat.le_trans (cld_len AT.out.cl) (by omega))
  have hkp := keys_perm hown hhas AT.out.cl
  have hso := sorted_any (w.heap.size + 1) S.length D w2 hown hsz
  have hke := keys_any (w.heap.size + 1) w2
  have c5 := AT.out.c5
  have hbw2 : Below w.heap.size w w2 := HB.out.grown WG.out HB.out.size (fun j e => by cases e; omega)
  have hSn : ∀ g ∈ S, g.1 ≤ n := by
    obtain ⟨T, hT, hT2⟩ := GR.out
    intro g hg
    rw [hT, List.nil_append] at hg
    have := hT2 g hg
    omega
  have SO := Lib.hid hso; have KE := Lib.hid hke; have HKP := Lib.hid hkp; have HSN := Lib.hid hSn; have HOW := Lib.hid hown; have HAT := Lib.hid hat; have BW2 := Lib.hid hbw2
  clear hown hhas hat hsz hkp hso hke hSn hbw2 hmm c6
  go_wp2_with (first
    | (go_at_call 48; (with_reducible refine KE.out.mono ?_); rintro e _ ⟨rfl, rfl⟩)
    | (go_at_call 47; (with_reducible refine SO.out.mono ?_); rintro e w4 ⟨v, ss, rfl, hp, ho, hb4⟩; obtain ⟨KA, km, kc, rfl⟩ := own_form ho; have HP := Lib.hid hp; have HO := Lib.hid ho; have B4 := Lib.hid hb4; clear hp ho hb4)
    | fail)
  obtain rfl : km = ss.length := by
    rcases HO.out.2 with ⟨e, h0⟩ | ⟨g, cap, cur, e, _⟩
    · cases e; exact h0.symm
    · cases e; rfl
  obtain ⟨ks, hks⟩ : ∃ ks, ks = ss.mergeSort fun x y => decide (x ≤ y) := ⟨_, rfl⟩
  have hkl : ss.length = ks.length := by rw [hks, List.length_mergeSort]
  have ho := HO.out
  rw [← hks, hkl] at ho
  rw [hkl]
  obtain ⟨hpv, hall⟩ := list_proves hlow AT.out.cl (HP.out.trans HKP.out.symm) HSN.out AS.out
  rw [← hks] at hpv hall
  have hnum := own_ints rfl ho
  have hb4 : Below w2.heap.size w2 w4 := (below_alloc w2 (.cells #[.map (some (w.heap.size + 1))] 93)).trans (B4.out.mono (Nat.le_succ _))
  have hlen : ks.length ≤ 20 := by
    rw [← hkl, HP.out.length_eq, ← HKP.out.length_eq, List.length_map]
    exact cld_len AT.out.cl
  have hown4 := HOW.out.kept (grown_below hb4 none) (by simp)
  have hc5 := (hb4.cell (p := ⟨w.heap.size + 1 + 1, 0, none⟩) (World.block_lt_of_cell? _ _ c5)).trans c5
  obtain ⟨K, hK⟩ : ∃ K, K = ks.length := ⟨_, rfl⟩
  rw [← hK] at hlen ⊢
  have hpick : ∀ (k : Nat) (x : Int), ks[k]? = some x → keyOf Try.prog 3 (.int .i64 x) = some (.int .i64 x) ∧ ∀ z, D.atKey (.int .i64 x) z = encF (pickF S x) := fun k x hx => by
    have hm := pickF_mem (hall x (List.mem_of_getElem? hx))
    have hr := (AT.out.cl.1 _ hm.1).1
    rw [hm.2] at hr
    refine ⟨key_of hr.1 hr.2, fun z => ?_⟩
    have := HAT.out _ hm.1 z
    rwa [hm.2] at this
  have HK := Lib.hid hK; have HPV := Lib.hid hpv; have HN := Lib.hid hnum; have BB4 := Lib.hid (below_step BW2.out hb4); have HO4 := Lib.hid hown4; have HC5 := Lib.hid hc5; have HPK := Lib.hid hpick
  obtain ⟨i0, hi0, hz0, hz1, hz2⟩ := info_parts fd_info
  clear hks hkl ho hpv hall hnum hb4 hown4 hc5 hK hpick HP HKP HSN AS AT HOW HAT B4 BW2 HO SO KE WG HASK HA HB c5 GR
  go_loopg [7, 9, 19] K (fun kx s7 s9 s19 wr => ∃ k : Nat, s19 = .int .i64 (k : Int) ∧ k + kx = K ∧ wr.ownsRow w4.heap.size 63 4 s7 ((ks.take k).map (pickF S)).length (flatF ((ks.take k).map (pickF S))) ∧ Below w4.heap.size w4 wr)
  case atStart => exact ⟨0, rfl, by omega, World.ownsRow_nil _ _ _ _, Below.refl _ _⟩
  case round =>
    obtain ⟨k, rfl, hk, ho, hb⟩ := hrel
    by_cases hlt : k < K
    · obtain ⟨x, hx⟩ : ∃ y, ks[k]? = some y := at_lt (by rw [← HK.out]; exact hlt)
      obtain ⟨bb, o, hA, hbb, e0⟩ := (HN.out.deep hb).at hx
      subst hA
      obtain ⟨hkey, hat⟩ := HPK.out k x hx
      have htk : (ks.take (k + 1)).map (pickF S) = (ks.take k).map (pickF S) ++ [pickF S x] := by
        rw [List.take_add_one, hx, List.map_append]
        rfl
      have hlenk : ((ks.take k).map (pickF S)).length ≤ 20 := by
        rw [List.length_map, List.length_take]
        omega
      have hown := HO4.out.kept (grown_below hb none) (by simp)
      have c5 := (hb.cell (p := ⟨w.heap.size + 1 + 1, 0, none⟩) (World.block_lt_of_cell? _ _ HC5.out)).trans HC5.out
      generalize (ks.take k).map (pickF S) = l at *
      generalize pickF S x = f at *
      obtain ⟨f1, f2, f3, f4⟩ := f
      have HB := Lib.hid hb; have HOO := Lib.hid ho; have HT := Lib.hid htk; have HW := Lib.hid hown; have HLE := Lib.hid hlenk
      clear hb ho htk hown hx hlenk
      go_wp2_with (first
        | (at_lookup; refine lookF rfl _ _ rfl (w.heap.size + 1) S.length D (f1, f2, f3, f4) x rfl HW.out rfl hkey hat ?_; unfold fdC; dsimp only)
        | (at_builtin; refine wpList_append_lies _ rfl _ _ 28 rfl w4.heap.size 63 i0 (.agg #[.int .i64 0, .bool false, .int .i64 0, .int .i64 0]) 4 32 Try.underlying28 hi0 hz0 hz1 hz2 rfl (by decide) _ l.length (flatF l) rfl (HOO.out.alloc _) ⟨wr.heap.size, 0, none⟩ 1 1 [.int .i64 f1, .bool f2, .int .i64 f3, .int .i64 f4] rfl rfl (fd_new wr (f1, f2, f3, f4)) (fd_one (f1, f2, f3, f4)) (by decide) (by have := HLE.out; unfold maxLen; omega) (by have := HLE.out; omega) (by have := HB.out.size; simp; omega) (wr.heap.size + 1) (by simp) ?_; intro g' cap' w9 hown9 hgrow hat9 hlt9; have O9 := Lib.hid hown9; have B9 := Lib.hid ((HB.out.alloc HB.out.size _).grown hgrow (by have := HB.out.size; simp; omega) (fun j ej => (HOO.out.lt j ej).1)); clear hown9 hgrow hat9 hlt9)
        | fail)
      go_roundg (K - (k + 1))
      case measure => omega
      case rel => exact ⟨k + 1, by go_num, by omega, by rw [HT.out, flatF_snoc, List.length_append]; exact O9.out, B9.out⟩
    · have hf : ks.take k = ks := List.take_of_length_le (by rw [← HK.out]; omega)
      rw [hf] at ho
      obtain ⟨RA, rm, rc, rfl⟩ := own_form ho
      obtain rfl : rm = (ks.map (pickF S)).length := by
        rcases ho.2 with ⟨e, h0⟩ | ⟨g, cap, cur, e, _⟩
        · cases e; exact h0.symm
        · cases e; rfl
      have HOO := Lib.hid ho; have HB := Lib.hid hb
      clear ho hb hf
      go_wp2
      go_ret
      exact ⟨_, _, ks.map (pickF S), rfl, HPV.out, own_less HOO.out BB4.out.size, BB4.out.trans (HB.out.mono BB4.out.size)⟩
end Go.Proofs.Ytiglkecmamnphaa
