/- ask: the function that calls itself. -/
import Derived.Test.YtiglkecmamnphaaFi
namespace Go.Proofs.Ytiglkecmamnphaa
open Go.RowKit Go.Sort Go.Lib Go.Maps

theorem nodup_le {α : Type} [DecidableEq α] : ∀ {l m : List α}, l.Nodup → (∀ x ∈ l, x ∈ m) → l.length ≤ m.length
  | [], m, _, _ => by simp
  | a :: l, m, h, hs => by
    have ha := hs a List.mem_cons_self
    have := nodup_le (l := l) (m := m.erase a) (List.nodup_cons.1 h).2 (fun x hx => (List.mem_erase_of_ne (fun e => (List.nodup_cons.1 h).1 (by rw [← e]; exact hx))).2 (hs x (List.mem_cons_of_mem _ hx)))
    have h2 := List.length_erase_of_mem ha
    have h3 := List.length_pos_of_mem ha
    simp; omega
theorem cld_len {b : Bk} {q : Qn} {S : List Fd} (h : Cld b q S) : S.length ≤ 20 := by
  have h1 : (S.map fun f => f.1.toNat).Nodup := by
    unfold List.Nodup
    rw [List.pairwise_map]
    refine List.Pairwise.imp_of_mem ?_ h.2
    intro f g hf hg hne e
    have h3 := (h.1 f hf).1
    have h4 := (h.1 g hg).1
    exact hne (by omega)
  have h2 := nodup_le (m := List.range 20) h1 (fun x hx => by
    obtain ⟨f, hf, rfl⟩ := List.mem_map.1 hx
    have := (h.1 f hf).1
    exact List.mem_range.2 (by omega))
  simpa using h2
theorem Grw.up {n m : Int} {S S' : List Fd} (h : Grw n S S') (hm : n ≤ m) : Grw m S S' := by
  obtain ⟨T, rfl, hT⟩ := h
  exact ⟨T, rfl, fun f hf => Int.lt_of_lt_of_le (hT f hf) hm⟩
theorem zeroF (w : World) : (zeroValue 63).run Try.prog w = .ok (.agg #[.int .i64 0, .bool false, .int .i64 0, .int .i64 0]) w := by kernel_rfl
abbrev askC (g5 g2 g6 : Nat) : Array Value := #[.pointer (some ⟨g5, 0, none⟩), .pointer (some ⟨g2, 0, none⟩), .pointer (some ⟨g6, 0, none⟩)]
/-- S has a finding about n. -/
def Asked (S : List Fd) (n : Int) : Prop := ∃ f ∈ S, f.1 = n
/-- What ask does at n. -/
def AskAt (b : Bk) (q : Qn) (cv rv fv av bv : Value) (gm g5 g2 g6 : Nat) (n : Int) : Prop :=
  ∀ (h : Bool) (S : List Fd) (W : World), AtS b q cv rv fv av bv gm g5 g2 g6 S W → Calls Try.prog 45 #[.int .i64 n, .bool h, .pointer (some ⟨g5, 0, none⟩), .pointer (some ⟨g2, 0, none⟩), .pointer (some ⟨g6, 0, none⟩)] W fun e w' => ∃ S', e = .returned (.bool (soB b q n == h)) ∧ Grw (n + 1) S S' ∧ Asked S' n ∧ AtS b q cv rv fv av bv gm g5 g2 g6 S' w' ∧ W.grownBy w' (some gm)
section
variable {b : Bk} {q : Qn} {cv rv fv av bv : Value} {gm g5 g2 g6 : Nat}
theorem isFn_ask {n : Int} (h : ∀ k, 0 ≤ k → k < n → AskAt b q cv rv fv av bv gm g5 g2 g6 k) :
    IsFn (List Fd) (AtS b q cv rv fv av bv gm g5 g2 g6) (Grw n) YesS NoS (some gm) (fun k => 0 ≤ k ∧ k < n) 45 (askC g5 g2 g6) where
  enters := enters_of Try.func45 (by kernel_rfl) rfl
  le_refl := fun s => Grw.refl n s
  le_trans := fun _ _ _ h k => h.trans k (Int.le_refl _)
  yes_mono := fun _ _ _ _ h k => h.is _ _ k
  no_mono := fun _ _ _ _ h k => h.is _ _ k
  at_step := fun _ _ _ h hb => h.step hb
  at_lt := fun _ _ h g e => h.nocell g e
  call := fun s W k hh hD ha => (h k hD.1 hD.2 hh s W ha).mono fun e w' ⟨S', he, hg, ⟨f, hf, hk⟩, hat, hgr⟩ => by
    have his := hat.cl.is hf
    rw [hk] at his
    refine ⟨_, S', he, hg.up (by omega), hat, fun e => ?_, fun e => ?_, hgr⟩
    · have : soB b q k = hh := by simpa using e
      rw [this] at his
      exact his
    · have : soB b q k = !hh := by cases hs : soB b q k <;> cases hh <;> simp_all
      rw [this] at his
      exact his

set_option maxRecDepth 100000 in
set_option maxHeartbeats 16000000 in
theorem ask_step (hlow : LowB b) (hc20 : b.cls.length ≤ 20) (hf20 : b.fct.length ≤ 20) (n : Int) (h0 : 0 ≤ n) (h1 : n < 20) (hk : ∀ k, 0 ≤ k → k < n → AskAt b q cv rv fv av bv gm g5 g2 g6 k) : AskAt b q cv rv fv av bv gm g5 g2 g6 n := by
  intro h S w ha
  have hfi := fun (S1 : List Fd) (W : World) (hat : AtS b q cv rv fv av bv gm g5 g2 g6 S1 W) => find_any b q hlow hc20 hf20 cv rv fv av bv gm g5 g2 g6 45 (askC g5 g2 g6) n h0 h1 (isFn_ask hk) S1 W hat
  have hkey := key_of h0 h1
  obtain ⟨D, hown, hhas, hat⟩ := ha.mp
  cases hin : S.any fun f => decide (f.1 = n)
  · -- not asked before
    have hfresh : ∀ g ∈ S, g.1 ≠ n := fun g hg e => by
      have := List.any_eq_false.1 hin g hg
      simp [e] at this
    have hh : Maps.has D (.int .i64 n) = false := by rw [hhas, hin]
    have hz : ∀ z, D.atKey (.int .i64 n) z = z := fun z => Maps.atKey_of_not_has hh z
    have c5 := ha.c5
    have HFI := Lib.hid hfi; have HA := Lib.hid ha; have HO := Lib.hid hown; have HZ := Lib.hid hz; have HFR := Lib.hid hfresh
    clear hfi ha hown hhas hat hin hz hfresh hk
    go_enter Try.func45, Try.ntmps45
    go_upto_region 3 with (first
      | (at_lookup; refine wpList_lookup_own_ok _ rfl _ _ 93 rfl 3 63 key_law Try.underlying93 fdR (zeroF _) (encF (0, false, 0, 0)) [] rfl gm S.length D rfl HO.out _ _ rfl hkey ?_; intro v ps hv; rw [HZ.out] at hv; obtain ⟨ff, rfl, he⟩ := fdR_inv hv; obtain rfl : (0, false, 0, 0) = ff := encF_inj (congrArg Prod.fst he); unfold fdC; clear hv he)
      | fail)
    obtain ⟨W1, hW1⟩ : ∃ W1, W1 = w.alloc (.cells #[.int .i64 0, .bool false, .int .i64 0, .int .i64 0] 63) := ⟨_, rfl⟩
    have hb1 : Below w.heap.size w W1 := by rw [hW1]; exact below_alloc _ _
    have r1 : Row W1 w.heap.size 63 #[.int .i64 0, .bool false, .int .i64 0, .int .i64 0] := by rw [hW1]; exact Row.made _ _ _
    rw [← hW1]
    have ha1 := HA.out.step hb1
    obtain ⟨k0, k1, k2, k3, k4⟩ := box5 ha1.r2
    have k6 := ha1.c6
    have HA1 := Lib.hid ha1; have R1 := Lib.hid r1; have B1 := Lib.hid hb1
    clear hW1 ha1 r1 hb1 c5
    go_upto_region 4 with (first
      | (go_at_call 46; (with_reducible refine (HFI.out S _ HA1.out).mono ?_); rintro e w3 ⟨⟨g1, g2', g3, g4⟩, S', rfl, ⟨e1, e2, e3⟩, hgr, hat, hwg⟩; have q := R1.out.grown hwg (row_ne HA1.out R1.out (by simp)); unfold fdC; dsimp only at e1 e2 ⊢; obtain ⟨z0, z1, z2, z3⟩ := box4 q; have y0 := q.free 0; have y1 := q.free 1; have y2 := q.free 2; have y3 := q.free 3; have Q := Lib.hid q; have E1 := Lib.hid e1; have E2 := Lib.hid e2; have E3 := Lib.hid e3; have GR := Lib.hid hgr; have AT := Lib.hid hat; have WG := Lib.hid hwg; clear q e1 e2 e3 hgr hat hwg k0 k1 k2 k3 k4 k6)
      | fail)
    obtain ⟨t1, t2⟩ := at_res HA.out (grown_next (grown_below B1.out _) WG.out) AT.out.mp AT.out.cl (Nat.le_refl w.heap.size) (.int .i64 g1) (.bool g2') (.int .i64 g3) (.int .i64 g4)
    have q4 : Row ((((w3.setCell ⟨w.heap.size, 0, none⟩ (.int .i64 g1)).setCell ⟨w.heap.size, 1, none⟩ (.bool g2')).setCell ⟨w.heap.size, 2, none⟩ (.int .i64 g3)).setCell ⟨w.heap.size, 3, none⟩ (.int .i64 g4)) w.heap.size 63 #[.int .i64 g1, .bool g2', .int .i64 g3, .int .i64 g4] := (((Q.out.stored 0 _).stored 1 _).stored 2 _).stored 3 _
    obtain ⟨W4, hW4⟩ : ∃ W4, W4 = ((((w3.setCell ⟨w.heap.size, 0, none⟩ (.int .i64 g1)).setCell ⟨w.heap.size, 1, none⟩ (.bool g2')).setCell ⟨w.heap.size, 2, none⟩ (.int .i64 g3)).setCell ⟨w.heap.size, 3, none⟩ (.int .i64 g4)) := ⟨_, rfl⟩
    rw [← hW4] at t1 t2 q4 ⊢
    clear hW4 z0 z1 z2 z3 y0 y1 y2 y3 Q
    obtain ⟨D', hown', hhas', hat'⟩ := t1.mp
    have hl := cld_len t1.cl
    have c5 := t1.c5
    obtain ⟨z0, z1, z2, z3⟩ := box4 q4
    have hg1 := E1.out
    subst hg1
    have T1 := Lib.hid t1; have T2 := Lib.hid t2; have Q4 := Lib.hid q4; have HO' := Lib.hid hown'; have HH' := Lib.hid hhas'; have HT' := Lib.hid hat'; have HL := Lib.hid hl
    clear t1 t2 q4 hown' hhas' hat' hl HA1 R1 B1 HO HFI
    go_upto_region 5 with (first
      | (at_mapUpdate; refine wpList_mapUpdate_own _ rfl _ _ _ 93 rfl 3 63 key_law Try.underlying93 fdR gm S'.length D' rfl HO'.out (by have := HL.out; unfold maxLen; omega) _ _ _ rfl rfl hkey (encF (g1, g2', g3, g4)) [] (fdR_mk (g1, g2', g3, g4)) ?_; intro w5 hown5 hgrow5; have O5 := Lib.hid hown5; have G5 := Lib.hid hgrow5; clear hown5 hgrow5)
      | fail)
    have q5 := Q4.out.grown G5.out (row_ne T1.out Q4.out (by simp))
    obtain ⟨x0, x1, x2, x3⟩ := box4 q5
    clear z0 z1 z2 z3 c5 q5
    have h2 := E2.out
    subst h2
    go_wp2
    go_ret
    have hfr := GR.out.fresh HFR.out
    have hcl := T1.out.cl.add (f := (g1, soB b q g1, g3, g4)) ⟨⟨h0, h1⟩, rfl, E3.out⟩ hfr
    have hmp := MapIs.put (f := (g1, soB b q g1, g3, g4)) HO'.out HH'.out HT'.out hfr O5.out
    refine ⟨rfl, S' ++ [(g1, soB b q g1, g3, g4)], ?_, ⟨_, List.mem_append_right _ (List.mem_singleton.2 rfl), rfl⟩, ?_, grown_next T2.out G5.out⟩
    · refine (GR.out.up (by omega)).trans ⟨[(g1, soB b q g1, g3, g4)], rfl, fun f hf => ?_⟩ (Int.le_refl _)
      rw [List.mem_singleton.1 hf]
      show g1 < g1 + 1
      omega
    · exact T1.out.grown G5.out hmp hcl
  · -- asked before
    obtain ⟨f, hf, hfn⟩ := List.any_eq_true.1 hin
    have hfn' : f.1 = n := by simpa using hfn
    subst hfn'
    have hh : Maps.has D (.int .i64 f.1) = true := by rw [hhas, hin]
    have hz := hat f hf
    have hs := (ha.cl.1 f hf).2.1
    have c5 := ha.c5
    have HA := Lib.hid ha; have HO := Lib.hid hown; have HZ := Lib.hid hz; have HF := Lib.hid hf
    clear hfi ha hown hhas hat hin hz hk hf hfn
    obtain ⟨f1, f2, f3, f4⟩ := f
    dsimp only at hs hh hkey h0 h1 ⊢ HZ
    go_enter Try.func45, Try.ntmps45
    go_upto_region 5 with (first
      | (at_lookup; refine wpList_lookup_own_ok _ rfl _ _ 93 rfl 3 63 key_law Try.underlying93 fdR (zeroF _) (encF (0, false, 0, 0)) [] rfl gm S.length D rfl HO.out _ _ rfl hkey ?_; intro v ps hv; rw [HZ.out] at hv; obtain ⟨ff, rfl, he⟩ := fdR_inv hv; obtain rfl : (f1, f2, f3, f4) = ff := encF_inj (congrArg Prod.fst he); unfold fdC; clear hv he)
      | fail)
    go_wp2
    go_ret
    exact ⟨S, by rw [← hs]; rfl, Grw.refl _ S, ⟨_, HF.out, rfl⟩, HA.out.step (below_alloc _ _), grown_below (below_alloc _ _) _⟩
end
theorem ask_any {b : Bk} {q : Qn} {cv rv fv av bv : Value} {gm g5 g2 g6 : Nat} (hlow : LowB b) (hc20 : b.cls.length ≤ 20) (hf20 : b.fct.length ≤ 20) : ∀ (N : Nat) (n : Int), 0 ≤ n → n < (N : Int) → n < 20 → AskAt b q cv rv fv av bv gm g5 g2 g6 n
  | 0, n, h0, hN, _ => by omega
  | N + 1, n, h0, hN, h1 => ask_step hlow hc20 hf20 n h0 h1 fun k k0 kn => ask_any hlow hc20 hf20 N k k0 (by omega) (by omega)
end Go.Proofs.Ytiglkecmamnphaa
