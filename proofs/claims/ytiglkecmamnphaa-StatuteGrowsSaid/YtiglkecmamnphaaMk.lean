/- Made: rules that integers determine. -/
import Derived.Test.YtiglkecmamnphaaMd
import Derived.Test.YtiglkecmamnphaaQh
import Derived.Deep.AppendLies
import Derived.Handy
import Derived.RangeFuncBox
namespace Go.Proofs.Ytiglkecmamnphaa
open Go.RowKit Go.Sort Go.Lib

/-- Memory while Made runs. -/
structure Mkd (w : World) (X : Array Value) (cv rv fv : Value) (cs : List CV) (rs : List Rpl) (fs : List Fct) (W : World) : Prop where
  x : Row W w.heap.size 25 X
  r : Row W (w.heap.size + 1) 34 #[nilS, nilS, nilS]
  c : Row W (w.heap.size + 1 + 1) 34 #[cv, rv, fv]
  o : OwnB W w.heap.size cv rv fv cs rs fs
  b : Below w.heap.size w W
section
variable {w W Y : World} {X : Array Value} {cv rv fv : Value} {cs : List CV} {rs : List Rpl} {fs : List Fct}
theorem Mkd.step (h : Mkd w X cv rv fv cs rs fs W) (hb : Below W.heap.size W Y) : Mkd w X cv rv fv cs rs fs Y := ⟨h.x.step hb, h.r.step hb, h.c.step hb, h.o.step hb, below_step h.b hb⟩
/-- A store into the result's box of rules. -/
theorem Mkd.putc {cv' rv' fv' u : Value} {cs' : List CV} {rs' : List Rpl} {fs' : List Fct} (i : Nat) (hx : Row W w.heap.size 25 X) (hr : Row W (w.heap.size + 1) 34 #[nilS, nilS, nilS]) (hc : Row W (w.heap.size + 1 + 1) 34 #[cv, rv, fv]) (ho : OwnB W w.heap.size cv' rv' fv' cs' rs' fs') (hb : Below w.heap.size w W)
    (he : (#[cv, rv, fv] : Array Value).setIfInBounds i u = #[cv', rv', fv']) : Mkd w X cv' rv' fv' cs' rs' fs' (W.setCell ⟨w.heap.size + 1 + 1, i, none⟩ u) :=
  ⟨hx.aside (p := ⟨w.heap.size + 1 + 1, i, none⟩) (by show w.heap.size + 1 + 1 ≠ _; omega) _, hr.aside (p := ⟨w.heap.size + 1 + 1, i, none⟩) (by show w.heap.size + 1 + 1 ≠ _; omega) _, by rw [← he]; exact hc.stored i u, ho.aside hc (by decide) i u, hb.setCell (p := ⟨w.heap.size + 1 + 1, i, none⟩) (by show w.heap.size ≤ w.heap.size + 1 + 1; omega) _⟩
theorem Mkd.addC {w1 : World} {cv' : Value} {p : CV} (h : Mkd w X cv rv fv cs rs fs W) (hp : IRow W p.2.1 p.1.needs ∧ IRow W p.2.2 p.1.bars) (hg : W.grownBy w1 cv.ownBlock) (ho : w1.ownsRow w.heap.size 51 6 cv' (cs.length + 1) (flG clsL cs ++ clsL p)) :
    Row w1 (w.heap.size + 1 + 1) 34 #[cv, rv, fv] ∧ Mkd w X cv' rv fv (cs ++ [p]) rs fs (w1.setCell ⟨w.heap.size + 1 + 1, 0, none⟩ cv') := by
  have keep : ∀ g t C, Row W g t C → t ≠ 51 → Row w1 g t C := fun g t C hr hne => hr.grown hg (own_row3 h.o.c hr hne)
  have hc := keep _ _ _ h.c (by decide)
  exact ⟨hc, Mkd.putc 0 (keep _ _ _ h.x (by decide)) (keep _ _ _ h.r (by decide)) hc (h.o.addC hp hg ho) (keep_grown h.b hg h.o.c) rfl⟩
theorem Mkd.addR {w1 : World} {rv' : Value} {p : Rpl} (h : Mkd w X cv rv fv cs rs fs W) (hg : W.grownBy w1 rv.ownBlock) (ho : w1.ownsRow w.heap.size 55 3 rv' (rs.length + 1) (flG rplL rs ++ rplL p)) :
    Row w1 (w.heap.size + 1 + 1) 34 #[cv, rv, fv] ∧ Mkd w X cv rv' fv cs (rs ++ [p]) fs (w1.setCell ⟨w.heap.size + 1 + 1, 1, none⟩ rv') := by
  have keep : ∀ g t C, Row W g t C → t ≠ 55 → Row w1 g t C := fun g t C hr hne => hr.grown hg (own_row3 h.o.r hr hne)
  have hc := keep _ _ _ h.c (by decide)
  exact ⟨hc, Mkd.putc 1 (keep _ _ _ h.x (by decide)) (keep _ _ _ h.r (by decide)) hc (h.o.addR hg ho) (keep_grown h.b hg h.o.r) rfl⟩
theorem Mkd.addF {w1 : World} {fv' : Value} {p : Fct} (h : Mkd w X cv rv fv cs rs fs W) (hg : W.grownBy w1 fv.ownBlock) (ho : w1.ownsRow w.heap.size 57 6 fv' (fs.length + 1) (flG fctL fs ++ fctL p)) :
    Row w1 (w.heap.size + 1 + 1) 34 #[cv, rv, fv] ∧ Mkd w X cv rv fv' cs rs (fs ++ [p]) (w1.setCell ⟨w.heap.size + 1 + 1, 2, none⟩ fv') := by
  have keep : ∀ g t C, Row W g t C → t ≠ 57 → Row w1 g t C := fun g t C hr hne => hr.grown hg (own_row3 h.o.f hr hne)
  have hc := keep _ _ _ h.c (by decide)
  exact ⟨hc, Mkd.putc 2 (keep _ _ _ h.x (by decide)) (keep _ _ _ h.r (by decide)) hc (h.o.addF hg ho) (keep_grown h.b hg h.o.f) rfl⟩
end
theorem own_len {w : World} {B k n : Nat} {e : TypeId} {v : Value} {xs : List Value} (h : w.ownsRow B e k v n xs) : ∃ A c, v = .slice A n c := by
  rcases h.2 with ⟨rfl, rfl⟩ | ⟨g, cap, _, rfl, _⟩
  · exact ⟨_, _, rfl⟩
  · exact ⟨_, _, rfl⟩
theorem load_bk {w : World} {g : Nat} {t : TypeId} {a b c : Value} (h : Row w g t #[a, b, c]) : (loadVar 34 ⟨g, 0, none⟩).run Try.prog w = .ok (.agg #[a, b, c]) w := by
  obtain ⟨k0, k1, k2, _, _, _⟩ := h.three
  simp [loadVar, go_sem, k0, k1, k2]
theorem res_bk {fn : Func} {p : Tmp} {tmps : Array Value} {w : World} {g : Nat} {t : TypeId} {a b c : Value} (h : fn.results = #[.cell p 34]) (hp : tmps.getD p undef = .pointer (some ⟨g, 0, none⟩)) (hr : Row w g t #[a, b, c]) : (results fn tmps).run Try.prog w = .ok (.agg #[a, b, c]) w := by
  have hl := load_bk hr
  have ha := asAddr_ptr (w := w) hp
  simp only [results, h]
  simp [Sem.run_bind, Result.andThen, ha, hl, -Array.getD_eq_getD_getElem?]
theorem clsL_one (p : CV) (hn : p.2.1.oneCell' = true) (hb : p.2.2.oneCell' = true) : ∀ u ∈ clsL p, u.oneCell' = true := by
  intro u hu
  simp only [clsL, List.mem_cons, List.not_mem_nil, or_false] at hu
  rcases hu with rfl | rfl | rfl | rfl | rfl | rfl <;> first | rfl | assumption
theorem rplL_one (r : Rpl) : ∀ u ∈ rplL r, u.oneCell' = true := by
  intro u hu
  simp only [rplL, List.mem_cons, List.not_mem_nil, or_false] at hu
  rcases hu with rfl | rfl | rfl <;> rfl
theorem fctL_one (f : Fct) : ∀ u ∈ fctL f, u.oneCell' = true := by
  intro u hu
  simp only [fctL, List.mem_cons, List.not_mem_nil, or_false] at hu
  rcases hu with rfl | rfl | rfl | rfl | rfl | rfl <;> rfl
def In6 (y : Six) : Prop := In64 y.1 ∧ In64 y.2.1 ∧ In64 y.2.2.1 ∧ In64 y.2.2.2.1 ∧ In64 y.2.2.2.2.1 ∧ In64 y.2.2.2.2.2
def In3 (y : Tri) : Prop := In64 y.1 ∧ In64 y.2.1 ∧ In64 y.2.2
theorem Cells.six {W : World} {B : Nat} {A : Option Addr} {l : List Six} (h : Cells W B A 6 (l.map fun y => (sixL y).toArray)) {k : Nat} {y : Six} (hy : l[k]? = some y) : ∃ b o : Nat, A = some ⟨b, o, none⟩ ∧ b < B ∧ W.cell? ⟨b, o + k * 6, none⟩ = some (.int .i64 y.1) ∧ W.cell? ⟨b, o + k * 6 + 1, none⟩ = some (.int .i64 y.2.1) ∧ W.cell? ⟨b, o + k * 6 + 2, none⟩ = some (.int .i64 y.2.2.1) ∧ W.cell? ⟨b, o + k * 6 + 3, none⟩ = some (.int .i64 y.2.2.2.1) ∧ W.cell? ⟨b, o + k * 6 + 4, none⟩ = some (.int .i64 y.2.2.2.2.1) ∧ W.cell? ⟨b, o + k * 6 + 5, none⟩ = some (.int .i64 y.2.2.2.2.2) := by
  obtain ⟨b, o, hA, hB, c⟩ := h.get (i := k) (C := (sixL y).toArray) (by rw [List.getElem?_map, hy]; rfl)
  exact ⟨b, o, hA, hB, c 0 _ rfl, c 1 _ rfl, c 2 _ rfl, c 3 _ rfl, c 4 _ rfl, c 5 _ rfl⟩
theorem Cells.tri {W : World} {B : Nat} {A : Option Addr} {l : List Tri} (h : Cells W B A 3 (l.map fun y => (triL y).toArray)) {k : Nat} {y : Tri} (hy : l[k]? = some y) : ∃ b o : Nat, A = some ⟨b, o, none⟩ ∧ b < B ∧ W.cell? ⟨b, o + k * 3, none⟩ = some (.int .i64 y.1) ∧ W.cell? ⟨b, o + k * 3 + 1, none⟩ = some (.int .i64 y.2.1) ∧ W.cell? ⟨b, o + k * 3 + 2, none⟩ = some (.int .i64 y.2.2) := by
  obtain ⟨b, o, hA, hB, c⟩ := h.get (i := k) (C := (triL y).toArray) (by rw [List.getElem?_map, hy]; rfl)
  exact ⟨b, o, hA, hB, c 0 _ rfl, c 1 _ rfl, c 2 _ rfl⟩

set_option maxRecDepth 100000 in
set_option maxHeartbeats 16000000 in
theorem made_any (C : List Six) (CA : Option Addr) (cc : Nat) (R : List Tri) (RA : Option Addr) (rc : Nat) (F : List Six) (FA : Option Addr) (fc : Nat) (hC : ∀ y ∈ C, In6 y) (hR : ∀ y ∈ R, In3 y) (hF : ∀ y ∈ F, In6 y) (lC : C.length ≤ 9223372036854775807) (lR : R.length ≤ 9223372036854775807) (lF : F.length ≤ 9223372036854775807) (w : World)
    (wC : Cells w w.heap.size CA 6 (C.map fun y => (sixL y).toArray)) (wR : Cells w w.heap.size RA 3 (R.map fun y => (triL y).toArray)) (wF : Cells w w.heap.size FA 6 (F.map fun y => (sixL y).toArray)) :
    Calls Try.prog 10 #[.agg #[.slice CA C.length cc, .slice RA R.length rc, .slice FA F.length fc]] w fun e w' => ∃ cv rv fv cs, e = .returned (.agg #[cv, rv, fv]) ∧ OwnB w' w.heap.size cv rv fv cs (madeB C R F).rpl (madeB C R F).fct ∧ cs.map (·.1) = (madeB C R F).cls ∧ Below w.heap.size w w' := by
  obtain ⟨LC, hLC⟩ : ∃ L, L = C.length := ⟨_, rfl⟩
  obtain ⟨LR, hLR⟩ : ∃ L, L = R.length := ⟨_, rfl⟩
  obtain ⟨LF, hLF⟩ : ∃ L, L = F.length := ⟨_, rfl⟩
  obtain ⟨ic, hc0, hcz, hcs, hcb⟩ := info_parts cls_info
  obtain ⟨ir, hr0, hrz, hrs, hrb⟩ := info_parts rpl_info
  obtain ⟨if_, hf0, hfz, hfs, hfb⟩ := info_parts fct_info
  rw [← hLC] at lC ⊢
  rw [← hLR] at lR ⊢
  rw [← hLF] at lF ⊢
  obtain ⟨W0, hW0⟩ : ∃ W0, W0 = ((w.alloc (.cells #[.slice CA LC cc, .slice RA LR rc, .slice FA LF fc] 25)).alloc (.cells #[nilS, nilS, nilS] 34)).alloc (.cells #[nilS, nilS, nilS] 34) := ⟨_, rfl⟩
  have st : Mkd w #[.slice CA LC cc, .slice RA LR rc, .slice FA LF fc] nilS nilS nilS [] [] [] W0 := by
    rw [hW0]
    exact ⟨((Row.made _ _ _).later _).later _, (Row.made_at _ _ _ (by simp)).later _, Row.made_at _ _ _ (by simp), OwnB.none _ _, keep_alloc (keep_alloc (below_alloc _ _) _) _⟩
  have ST := Lib.hid st
  have HC := Lib.hid wC; have HR := Lib.hid wR; have HF := Lib.hid wF; have IC := Lib.hid hC; have IR := Lib.hid hR; have IF := Lib.hid hF; have HLC := Lib.hid hLC; have HLR := Lib.hid hLR; have HLF := Lib.hid hLF
  have INF := Lib.hid (And.intro (And.intro hc0 (And.intro hcz (And.intro hcs hcb))) (And.intro (And.intro hr0 (And.intro hrz (And.intro hrs hrb))) (And.intro hf0 (And.intro hfz (And.intro hfs hfb)))))
  clear st wC wR wF hC hR hF hLC hLR hLF hc0 hcz hcs hcb hr0 hrz hrs hrb hf0 hfz hfs hfb
  go_enter Try.func10, Try.ntmps10
  go_upto_region 2 with (fail)
  rw [← hW0]
  clear hW0
  go_wp2
  go_loopg [4, 5, 6] (min 8 LC) (fun kx s4 s5 s6 wr => ∃ (k : Nat) (cv : Value) (cs : List CV), s4 = .int .i64 (k : Int) ∧ k + kx = min 8 LC ∧ Mkd w #[.slice CA LC cc, .slice RA LR rc, .slice FA LF fc] cv nilS nilS cs [] [] wr ∧ Hid (cs.map (·.1) = (C.take k).map clsI))
  case atStart => exact ⟨0, nilS, [], rfl, by omega, ST.out, Lib.hid (by simp)⟩
  case round =>
    clear ST
    obtain ⟨k, cv, cs, rfl, hk, hM, HCS⟩ := hrel
    have x0 := hM.x.at (i := 0) rfl
    by_cases hlt : k < 8 ∧ k < LC
    · obtain ⟨k8, kL⟩ := hlt
      obtain ⟨y, hy⟩ : ∃ y, C[k]? = some y := at_lt (by rw [← HLC.out]; exact kL)
      obtain ⟨bb, o, hA, _, e0, e1, e2, e3, e4, e5⟩ := (HC.out.below hM.b).six hy
      subst hA
      obtain ⟨j0, j1, j2, j3, j4, j5⟩ := IC.out _ (List.mem_of_getElem? hy)
      have hcl : clsI y = ⟨pk y.1 80, (partI y.2.1 y.2.2.1).1, (partI y.2.1 y.2.2.1).2, bitsK y.2.2.2.2.1 (pk y.2.2.2.1 8).toNat, bitsK y.2.2.2.2.2 (pk y.2.2.2.1 8).toNat, pk y.2.2.2.1 8⟩ := rfl
      have hnx : (C.take (k + 1)).map clsI = (C.take k).map clsI ++ [clsI y] := by rw [List.take_add_one, hy, List.map_append]; rfl
      rw [hcl] at hnx
      obtain ⟨y0, y1, y2, y3, y4, y5⟩ := y
      dsimp only at e0 e1 e2 e3 e4 e5 j0 j1 j2 j3 j4 j5 hnx
      have pg := fun W => rpick_any y3 8 j3.1 j3.2 (by omega) (by omega) W
      have p0 := fun W => rpick_any y0 80 j0.1 j0.2 (by omega) (by omega) W
      have pt := fun W => part_any y1 y2 j1 j2 W
      have rg := pk_range (c := y3) (n := 8) (by omega)
      generalize pk y3 8 = g at *
      obtain ⟨g, rfl⟩ := Int.eq_ofNat_of_zero_le rg.1
      rw [Int.toNat_natCast] at hnx
      have hg8 : g ≤ 8 := by omega
      have bn := fun W => bits_any y4 g j4 hg8 W
      have bb' := fun W => bits_any y5 g j5 hg8 W
      generalize pk y0 80 = pb at *
      generalize partI y1 y2 = sp at *
      obtain ⟨sf, se⟩ := sp
      dsimp only at pt hnx
      have HNX := Lib.hid hnx; have PG := Lib.hid pg; have PK0 := Lib.hid p0; have PT := Lib.hid pt; have BN := Lib.hid bn; have BB := Lib.hid bb'; have MM := Lib.hid hM
      clear hnx pg p0 pt bn bb' hcl j0 j1 j2 j3 j4 j5 rg
      have kLi : (k : Int) < (LC : Int) := by omega
      have hcl : cs.length ≤ 8 := by
        have := congrArg List.length HCS.out
        rw [List.length_map, List.length_map, List.length_take] at this
        omega
      go_upto_region 6 with (fail)
      obtain ⟨W5, hW5⟩ : ∃ W5, W5 = wr.alloc (.cells #[.int .i64 y0, .int .i64 y1, .int .i64 y2, .int .i64 y3, .int .i64 y4, .int .i64 y5] 74) := ⟨_, rfl⟩
      rw [← hW5]
      have m5 := MM.out.step (Y := W5) (by rw [hW5]; exact below_alloc _ _)
      have r5 : Row W5 wr.heap.size 74 #[.int .i64 y0, .int .i64 y1, .int .i64 y2, .int .i64 y3, .int .i64 y4, .int .i64 y5] := by rw [hW5]; exact Row.made _ _ _
      have c3 := r5.at (i := 3) rfl
      obtain ⟨P7, hP7⟩ : ∃ P : World → Prop, P = fun W => Mkd w #[.slice (some ⟨bb, o, none⟩) LC cc, .slice RA LR rc, .slice FA LF fc] cv nilS nilS cs [] [] W ∧ Row W wr.heap.size 74 #[.int .i64 y0, .int .i64 y1, .int .i64 y2, .int .i64 y3, .int .i64 y4, .int .i64 y5] := ⟨_, rfl⟩
      have gg : P7 W5 := by rw [hP7]; exact ⟨m5, r5⟩
      have kk : ∀ W, P7 W → (Hid (P7 W) ∧ W.cell? ⟨w.heap.size + 1 + 1, 0, none⟩ = some cv ∧ W.cell? ⟨wr.heap.size, 0, none⟩ = some (.int .i64 y0) ∧ W.cell? ⟨wr.heap.size, 1, none⟩ = some (.int .i64 y1) ∧ W.cell? ⟨wr.heap.size, 2, none⟩ = some (.int .i64 y2) ∧ W.cell? ⟨wr.heap.size, 4, none⟩ = some (.int .i64 y4) ∧ W.cell? ⟨wr.heap.size, 5, none⟩ = some (.int .i64 y5)) := fun W h => by
        have h' := h
        rw [hP7] at h'
        exact ⟨Lib.hid h, h'.1.c.at (i := 0) rfl, h'.2.at (i := 0) rfl, h'.2.at (i := 1) rfl, h'.2.at (i := 2) rfl, h'.2.at (i := 4) rfl, h'.2.at (i := 5) rfl⟩
      have sp : ∀ W X, P7 W → Below W.heap.size W X → P7 X := fun W X h hb => by
        rw [hP7] at h ⊢
        exact ⟨h.1.step hb, h.2.step hb⟩
      have GG := Lib.hid (sp _ _ gg ((Below.refl _ _).drew)); have KK := Lib.hid kk; have SP := Lib.hid sp; have HP7 := Lib.hid hP7
      clear hW5 m5 r5 hP7 gg kk sp x0 e0 e1 e2 e3 e4 e5
      go_upto_region 7 with (go_at_call 27; (with_reducible refine (PG.out _).mono ?_); rintro e wx ⟨rfl, hwx⟩; have hwx := hwx.symm; subst hwx)
      clear c3
      refine wp_region_held_head (S := (fun W => (Hid (P7 W) ∧ W.cell? ⟨w.heap.size + 1 + 1, 0, none⟩ = some cv ∧ W.cell? ⟨wr.heap.size, 0, none⟩ = some (.int .i64 y0) ∧ W.cell? ⟨wr.heap.size, 1, none⟩ = some (.int .i64 y1) ∧ W.cell? ⟨wr.heap.size, 2, none⟩ = some (.int .i64 y2) ∧ W.cell? ⟨wr.heap.size, 4, none⟩ = some (.int .i64 y4) ∧ W.cell? ⟨wr.heap.size, 5, none⟩ = some (.int .i64 y5)))) 21 (by kernel_rfl) (by kernel_rfl) ?_ (fun hHeld => ?_)
      · exact KK.out _ GG.out
      simp only [List.take_succ_cons, List.take_zero, List.drop_succ_cons, List.drop_zero]
      refine wpAnyH_take (i := 0) (oi := ⟨_, _, _, _, _, _⟩) (v := ?_) rfl (by kernel_rfl) (by kernel_rfl) (by kernel_rfl) (fun _ _ _ h => h) (Or.inl ⟨by rfl, ?_⟩) (by assumption) ?_
      rotate_left 1
      focus (intro w hSw; (try dsimp only at hSw); go_simp; (try with_reducible rfl))
      (try simp only [Act.put, List.setIfInBounds_toArray, List.set_cons_zero, List.set_cons_succ])
      refine wpAnyH_take (i := 1) (oi := ⟨_, _, _, _, _, _⟩) (v := ?_) rfl (by kernel_rfl) (by kernel_rfl) (by kernel_rfl) (fun _ _ _ h => h) (Or.inl ⟨by rfl, ?_⟩) (by assumption) ?_
      rotate_left 1
      focus (intro w hSw; (try dsimp only at hSw); go_simp; (try with_reducible rfl))
      (try simp only [Act.put, List.setIfInBounds_toArray, List.set_cons_zero, List.set_cons_succ])
      refine wpAnyH_take (i := 2) (oi := ⟨_, _, _, _, _, _⟩) (v := ?_) rfl (by kernel_rfl) (by kernel_rfl) (by kernel_rfl) (fun _ _ _ h => h) (Or.inl ⟨by rfl, ?_⟩) (by assumption) ?_
      rotate_left 1
      focus (intro w hSw; (try dsimp only at hSw); go_simp; (try with_reducible rfl))
      (try simp only [Act.put, List.setIfInBounds_toArray, List.set_cons_zero, List.set_cons_succ])
      refine wpAnyH_take (i := 3) (oi := ⟨_, _, _, _, _, _⟩) (v := ?_) rfl (by kernel_rfl) (by kernel_rfl) (by kernel_rfl) (fun _ _ _ h => h) (Or.inl ⟨by rfl, ?_⟩) (by assumption) ?_
      rotate_left 1
      focus (intro w hSw; (try dsimp only at hSw); go_simp; (try with_reducible rfl))
      (try simp only [Act.put, List.setIfInBounds_toArray, List.set_cons_zero, List.set_cons_succ])
      refine wpAnyH_take (i := 5) (oi := ⟨_, _, _, _, _, _⟩) (v := ?_) rfl (by kernel_rfl) (by kernel_rfl) (by kernel_rfl) (fun _ _ _ h => h) (Or.inl ⟨by rfl, ?_⟩) (by assumption) ?_
      rotate_left 1
      focus (intro w hSw; (try dsimp only at hSw); go_simp; (try with_reducible rfl))
      (try simp only [Act.put, List.setIfInBounds_toArray, List.set_cons_zero, List.set_cons_succ])
      refine wpAnyH_take (i := 6) (oi := ⟨_, _, _, _, _, _⟩) (v := ?_) rfl (by kernel_rfl) (by kernel_rfl) (by kernel_rfl) (fun _ _ _ h => h) (Or.inl ⟨by rfl, ?_⟩) (by assumption) ?_
      rotate_left 1
      focus (intro w hSw; (try dsimp only at hSw); go_simp; (try with_reducible rfl))
      (try simp only [Act.put, List.setIfInBounds_toArray, List.set_cons_zero, List.set_cons_succ])
      refine wpAnyH_take (i := 7) (oi := ⟨_, _, _, _, _, _⟩) (v := ?_) rfl (by kernel_rfl) (by kernel_rfl) (by kernel_rfl) (fun _ _ _ h => h) (Or.inl ⟨by rfl, ?_⟩) (by assumption) ?_
      rotate_left 1
      focus (intro w hSw; (try dsimp only at hSw); go_simp; (try with_reducible rfl))
      (try simp only [Act.put, List.setIfInBounds_toArray, List.set_cons_zero, List.set_cons_succ])
      refine wpAnyH_take (i := 8) (oi := ⟨_, _, _, _, _, _⟩) (v := ?_) rfl (by kernel_rfl) (by kernel_rfl) (by kernel_rfl) (fun _ _ _ h => h) (Or.inl ⟨by rfl, ?_⟩) (by assumption) ?_
      rotate_left 1
      focus (intro w hSw; (try dsimp only at hSw); go_simp; (try with_reducible rfl))
      (try simp only [Act.put, List.setIfInBounds_toArray, List.set_cons_zero, List.set_cons_succ])
      refine wpAnyH_take (i := 10) (oi := ⟨_, _, _, _, _, _⟩) (v := ?_) rfl (by kernel_rfl) (by kernel_rfl) (by kernel_rfl) (fun _ _ _ h => h) (Or.inl ⟨by rfl, ?_⟩) (by assumption) ?_
      rotate_left 1
      focus (intro w hSw; (try dsimp only at hSw); go_simp; (try with_reducible rfl))
      (try simp only [Act.put, List.setIfInBounds_toArray, List.set_cons_zero, List.set_cons_succ])
      refine wpAnyH_take (i := 11) (oi := ⟨_, _, _, _, _, _⟩) (v := ?_) rfl (by kernel_rfl) (by kernel_rfl) (by kernel_rfl) (fun _ _ _ h => h) (Or.inl ⟨by rfl, ?_⟩) (by assumption) ?_
      rotate_left 1
      focus (intro w hSw; (try dsimp only at hSw); go_simp; (try with_reducible rfl))
      (try simp only [Act.put, List.setIfInBounds_toArray, List.set_cons_zero, List.set_cons_succ])
      refine wpAnyH_take (i := 12) (oi := ⟨_, _, _, _, _, _⟩) (v := ?_) rfl (by kernel_rfl) (by kernel_rfl) (by kernel_rfl) (fun _ _ _ h => h) (Or.inl ⟨by rfl, ?_⟩) (by assumption) ?_
      rotate_left 1
      focus (intro w hSw; (try dsimp only at hSw); go_simp; (try with_reducible rfl))
      (try simp only [Act.put, List.setIfInBounds_toArray, List.set_cons_zero, List.set_cons_succ])
      refine wpAnyH_take (i := 14) (oi := ⟨_, _, _, _, _, _⟩) (v := ?_) rfl (by kernel_rfl) (by kernel_rfl) (by kernel_rfl) (fun _ _ _ h => h) (Or.inl ⟨by rfl, ?_⟩) (by assumption) ?_
      rotate_left 1
      focus (intro w hSw; (try dsimp only at hSw); go_simp; (try with_reducible rfl))
      (try simp only [Act.put, List.setIfInBounds_toArray, List.set_cons_zero, List.set_cons_succ])
      refine wpAnyH_take (i := 15) (oi := ⟨_, _, _, _, _, _⟩) (v := ?_) rfl (by kernel_rfl) (by kernel_rfl) (by kernel_rfl) (fun _ _ _ h => h) (Or.inl ⟨by rfl, ?_⟩) (by assumption) ?_
      rotate_left 1
      focus (intro w hSw; (try dsimp only at hSw); go_simp; (try with_reducible rfl))
      (try simp only [Act.put, List.setIfInBounds_toArray, List.set_cons_zero, List.set_cons_succ])
      refine wpAnyH_take (i := 16) (oi := ⟨_, _, _, _, _, _⟩) (v := ?_) rfl (by kernel_rfl) (by kernel_rfl) (by kernel_rfl) (fun _ _ _ h => h) (Or.inl ⟨by rfl, ?_⟩) (by assumption) ?_
      rotate_left 1
      focus (intro w hSw; (try dsimp only at hSw); go_simp; (try with_reducible rfl))
      (try simp only [Act.put, List.setIfInBounds_toArray, List.set_cons_zero, List.set_cons_succ])
      refine wpAnyH_take (i := 18) (oi := ⟨_, _, _, _, _, _⟩) (v := ?_) rfl (by kernel_rfl) (by kernel_rfl) (by kernel_rfl) (fun _ _ _ h => h) (Or.inl ⟨by rfl, ?_⟩) (by assumption) ?_
      rotate_left 1
      focus (intro w hSw; (try dsimp only at hSw); go_simp; (try with_reducible rfl))
      (try simp only [Act.put, List.setIfInBounds_toArray, List.set_cons_zero, List.set_cons_succ])
      refine wpAnyH_ready (rs := [4]) (by kernel_rfl) (by simp) ?_
      refine AllReadyH.cons (o := ⟨_, _, _, _, _, _⟩) rfl (fun K hK => ?_) ?_
      · go_simp
        go_at_call 27
        (with_reducible refine (PK0.out _).mono ?_)
        rintro e wx ⟨rfl, hwx⟩; have hwx := hwx.symm; subst hwx
        refine hK.out _ _ ?_ (fun hHeld => ?_)
        · exact KK.out _ GG.out
        clear hK K
        (try simp only [Act.put, List.setIfInBounds_toArray, List.set_cons_zero, List.set_cons_succ])
        refine wpAnyH_ready (rs := [9]) (by kernel_rfl) (by simp) ?_
        refine AllReadyH.cons (o := ⟨_, _, _, _, _, _⟩) rfl (fun K hK => ?_) ?_
        · go_simp
          go_at_call 28
          (with_reducible refine (PT.out _).mono ?_)
          rintro e w4 ⟨rfl, b4⟩; have hP4 := SP.out _ _ GG.out b4; clear b4
          refine hK.out _ _ ?_ (fun hHeld => ?_)
          · exact KK.out _ hP4
          clear hK K
          (try simp only [Act.put, List.setIfInBounds_toArray, List.set_cons_zero, List.set_cons_succ])
          refine wpAnyH_ready (rs := [13]) (by kernel_rfl) (by simp) ?_
          refine AllReadyH.cons (o := ⟨_, _, _, _, _, _⟩) rfl (fun K hK => ?_) ?_
          · go_simp
            go_at_call 29
            (with_reducible refine (BN.out _).mono ?_)
            rintro e w5 ⟨nv, rfl, o5, b5⟩; obtain ⟨NA, nn, nc, rfl⟩ := own_form o5; have hP5 := SP.out _ _ hP4 b5; have hN5 := Lib.hid (IRow.of o5); clear o5 b5
            refine hK.out _ _ ?_ (fun hHeld => ?_)
            · exact KK.out _ hP5
            clear hK K
            (try simp only [Act.put, List.setIfInBounds_toArray, List.set_cons_zero, List.set_cons_succ])
            refine wpAnyH_ready (rs := [17]) (by kernel_rfl) (by simp) ?_
            refine AllReadyH.cons (o := ⟨_, _, _, _, _, _⟩) rfl (fun K hK => ?_) ?_
            · go_simp
              go_at_call 29
              (with_reducible refine (BB.out _).mono ?_)
              rintro e w6 ⟨bv, rfl, o6, b6⟩; obtain ⟨BA, bn, bc, rfl⟩ := own_form o6; have hP6 := SP.out _ _ hP5 b6; have hN6 := Lib.hid (hN5.out.step b6); have hB6 := Lib.hid (IRow.of o6); clear o6 b6
              refine hK.out _ _ ?_ (fun hHeld => ?_)
              · exact KK.out _ hP6
              clear hK K
              (try simp only [Act.put, List.setIfInBounds_toArray, List.set_cons_zero, List.set_cons_succ])
              refine wpAnyH_take (i := 19) (oi := ⟨_, _, _, _, _, _⟩) (v := ?_) rfl (by kernel_rfl) (by kernel_rfl) (by kernel_rfl) (fun _ _ _ h => h) (Or.inl ⟨by rfl, ?_⟩) (by assumption) ?_
              rotate_left 1
              focus (intro w hSw; (try dsimp only at hSw); go_simp; (try with_reducible rfl))
              (try simp only [Act.put, List.setIfInBounds_toArray, List.set_cons_zero, List.set_cons_succ])
              refine wpAnyH_ready (rs := [20]) (by kernel_rfl) (by simp) ?_
              refine AllReadyH.cons (o := ⟨_, _, _, _, _, _⟩) rfl (fun K hK => ?_) ?_
              · go_simp
                refine hK.out _ _ ?_ (fun hHeld => ?_)
                · exact KK.out _ (SP.out _ _ hP6 (below_alloc _ _))
                clear hK K
                (try simp only [Act.put, List.setIfInBounds_toArray, List.set_cons_zero, List.set_cons_succ])
                refine wpAnyH_done (by kernel_rfl) ?_ _
                simp only [Exit.then]
                obtain ⟨W7, hW7⟩ : ∃ W7, W7 = w6.alloc (.cells (clsL ((⟨pb, sf, se, bitsK y4 g, bitsK y5 g, (g : Int)⟩, .slice NA nn nc, .slice BA bn bc) : CV)).toArray 51) := ⟨_, rfl⟩
                change wpList _ _ _ _ _ (w6.alloc (.cells (clsL ((⟨pb, sf, se, bitsK y4 g, bitsK y5 g, (g : Int)⟩, .slice NA nn nc, .slice BA bn bc) : CV)).toArray 51))
                rw [← hW7]
                have q7 : P7 W7 := by rw [hW7]; exact SP.out _ _ hP6 (below_alloc _ _)
                rw [HP7.out] at q7
                have m7 := q7.1
                have hp : IRow W7 (.slice NA nn nc) (bitsK y4 g) ∧ IRow W7 (.slice BA bn bc) (bitsK y5 g) := by rw [hW7]; exact ⟨hN6.out.step (below_alloc _ _), hB6.out.step (below_alloc _ _)⟩
                have hnew := new_at w6 51 (clsL ((⟨pb, sf, se, bitsK y4 g, bitsK y5 g, (g : Int)⟩, .slice NA nn nc, .slice BA bn bc) : CV))
                rw [← hW7] at hnew
                have hbase : w.heap.size ≤ W7.heap.size := m7.b.size
                have M7 := Lib.hid m7; have HNEW := Lib.hid hnew; have HP := Lib.hid hp
                clear hW7 q7 m7 hnew hp
                go_wp2_with (at_builtin; refine wpList_append_own _ rfl _ _ 30 rfl w.heap.size 51 ic (.agg #[.int .i64 0, .int .i64 0, .int .i64 0, .slice none 0 0, .slice none 0 0, .int .i64 0]) 6 80 Try.underlying30 INF.out.1.1 INF.out.1.2.1 INF.out.1.2.2.1 INF.out.1.2.2.2 rfl (by decide) _ _ _ rfl M7.out.o.c ⟨w6.heap.size, 0, none⟩ 1 1 (clsL ((⟨pb, sf, se, bitsK y4 g, bitsK y5 g, (g : Int)⟩, .slice NA nn nc, .slice BA bn bc) : CV)) rfl rfl HNEW.out (clsL_one _ rfl rfl) (by unfold maxLen; omega) (by omega) hbase ?_; intro v' w8 own8 hg8 _; obtain ⟨g', cap', rfl⟩ := ownsRow_succ own8; have q8 := Mkd.addC (p := ((⟨pb, sf, se, bitsK y4 g, bitsK y5 g, (g : Int)⟩, .slice NA nn nc, .slice BA bn bc) : CV)) M7.out HP.out hg8 own8; obtain ⟨hc8, m8⟩ := q8; obtain ⟨_, _, _, n3, n4, n5⟩ := hc8.three; have N8 := Lib.hid m8; clear own8 hg8 m8 hc8)
                go_roundg (min 8 LC - (k + 1))
                case measure => omega
                case rel => exact ⟨k + 1, _, _, by go_num, by omega, N8.out, Lib.hid (by rw [HNX.out, List.map_append, HCS.out]; rfl)⟩
              exact AllReadyH.nil
            exact AllReadyH.nil
          exact AllReadyH.nil
        exact AllReadyH.nil
      exact AllReadyH.nil
    · obtain rfl : k = min 8 LC := by omega
      have hcs : cs.map (·.1) = (C.take 8).map clsI := by
        rw [HCS.out]
        rcases Nat.le_total 8 LC with e | e
        · rw [Nat.min_eq_left e]
        · rw [Nat.min_eq_right e, List.take_of_length_le (by rw [← HLC.out]; exact Nat.le_refl _), List.take_of_length_le (by rw [← HLC.out]; exact e)]
      obtain ⟨n, hn⟩ : ∃ n, n = cs.length := ⟨_, rfl⟩
      have hn8 : n = min 8 LC := by
        have := congrArg List.length hcs
        rw [List.length_map, List.length_map, List.length_take, ← HLC.out] at this
        rw [hn]; exact this
      obtain ⟨VA, vc, rfl⟩ := own_len hM.o.c
      have MM := Lib.hid hM; have HCM := Lib.hid hcs; have HN := Lib.hid hn; have HN8 := Lib.hid hn8
      have hor : (((min 8 LC : Nat) : Int) < (LC : Int) ∧ ¬ ((min 8 LC : Nat) : Int) < 8) ∨ ¬ ((min 8 LC : Nat) : Int) < (LC : Int) := by omega
      rw [← hn] at MM
      rw [← hn] at hM
      clear hM hcs hn hn8 HCS hk hlt
      go_upto_region 3 with (fail)
      go_cut [19] (fun s19 W => s19 = .bool false ∧ W = wr)
      case first =>
        rcases hor with ⟨q1, q2⟩ | q1
        all_goals (go_wp2; go_meet; case rel => exact ⟨rfl, rfl⟩)
      case rest =>
        obtain ⟨rfl, hwc⟩ := hcut
        subst hwc
        clear hor x0
        obtain ⟨wb, hwb⟩ : ∃ x, x = wc := ⟨_, rfl⟩
        rw [← hwb] at MM ⊢
        clear hwb
        obtain ⟨K2, hK2⟩ : ∃ K, K = if n = 0 then 0 else min 3 LR := ⟨_, rfl⟩
        have HK2 := Lib.hid hK2
        clear hK2
        go_wp2
        go_loopg [7, 8] K2 (fun kx s7 s8 wr => ∃ (k : Nat) (rv : Value) (rs : List Rpl), s7 = .int .i64 (k : Int) ∧ k + kx = K2 ∧ Mkd w #[.slice CA LC cc, .slice RA LR rc, .slice FA LF fc] (.slice VA n vc) rv nilS cs rs [] wr ∧ Hid (rs = (R.take k).map (rplI n)))
        case atStart => exact ⟨0, nilS, [], rfl, by omega, MM.out, Lib.hid (by simp)⟩
        case round =>
          clear MM
          obtain ⟨k, rv, rs, rfl, hk, hM, HRS⟩ := hrel
          have x1 := hM.x.at (i := 1) rfl
          have v0 := hM.c.at (i := 0) rfl
          have hk2 := HK2.out
          by_cases hlt : (k < 3 ∧ k < LR) ∧ 0 < n
          · obtain ⟨⟨k3, kL⟩, n0⟩ := hlt
            obtain ⟨y, hy⟩ : ∃ y, R[k]? = some y := at_lt (by rw [← HLR.out]; exact kL)
            obtain ⟨bb, o, hA, _, e0, e1, e2⟩ := (HR.out.below hM.b).tri hy
            subst hA
            obtain ⟨j0, j1, j2⟩ := IR.out _ (List.mem_of_getElem? hy)
            have hcl : rplI n y = ⟨pk y.1 n, pk y.2.1 100, pk y.2.2 100⟩ := rfl
            have hnx : (R.take (k + 1)).map (rplI n) = (R.take k).map (rplI n) ++ [rplI n y] := by rw [List.take_add_one, hy, List.map_append]; rfl
            rw [hcl] at hnx
            obtain ⟨y0, y1, y2⟩ := y
            dsimp only at e0 e1 e2 j0 j1 j2 hnx
            have hn8 : n ≤ 8 := by have := HN8.out; omega
            have p0 := fun W => rpick_any y0 n j0.1 j0.2 (by omega) (by omega) W
            have p1 := fun W => rpick_any y1 100 j1.1 j1.2 (by omega) (by omega) W
            have p2 := fun W => rpick_any y2 100 j2.1 j2.2 (by omega) (by omega) W
            generalize pk y0 n = a0 at *
            generalize pk y1 100 = a1 at *
            generalize pk y2 100 = a2 at *
            have HNX := Lib.hid hnx; have P0 := Lib.hid p0; have P1 := Lib.hid p1; have P2 := Lib.hid p2; have MM := Lib.hid hM
            clear hnx p0 p1 p2 hcl j0 j1 j2 hk2
            have kLi : (k : Int) < (LR : Int) := by omega
            have n0i : (0 : Int) < (n : Int) := by omega
            have kK : k < K2 := by rw [HK2.out, if_neg (by omega)]; omega
            have hrl : rs.length ≤ 3 := by rw [HRS.out, List.length_map, List.length_take]; omega
            go_upto_region 12 with (fail)
            obtain ⟨W5, hW5⟩ : ∃ W5, W5 = wr.alloc (.cells #[.int .i64 y0, .int .i64 y1, .int .i64 y2] 77) := ⟨_, rfl⟩
            rw [← hW5]
            have m5 := MM.out.step (Y := W5) (by rw [hW5]; exact below_alloc _ _)
            have r5 : Row W5 wr.heap.size 77 #[.int .i64 y0, .int .i64 y1, .int .i64 y2] := by rw [hW5]; exact Row.made _ _ _
            obtain ⟨P7, hP7⟩ : ∃ P : World → Prop, P = fun W => Mkd w #[.slice CA LC cc, .slice (some ⟨bb, o, none⟩) LR rc, .slice FA LF fc] (.slice VA n vc) rv nilS cs rs [] W ∧ Row W wr.heap.size 77 #[.int .i64 y0, .int .i64 y1, .int .i64 y2] := ⟨_, rfl⟩
            have gg : P7 W5 := by rw [hP7]; exact ⟨m5, r5⟩
            have kk : ∀ W, P7 W → (Hid (P7 W) ∧ W.cell? ⟨w.heap.size + 1 + 1, 1, none⟩ = some rv ∧ W.cell? ⟨w.heap.size + 1 + 1, 0, none⟩ = some (.slice VA n vc) ∧ W.cell? ⟨wr.heap.size, 0, none⟩ = some (.int .i64 y0) ∧ W.cell? ⟨wr.heap.size, 1, none⟩ = some (.int .i64 y1) ∧ W.cell? ⟨wr.heap.size, 2, none⟩ = some (.int .i64 y2)) := fun W h => by
              have h' := h
              rw [hP7] at h'
              exact ⟨Lib.hid h, h'.1.c.at (i := 1) rfl, h'.1.c.at (i := 0) rfl, h'.2.at (i := 0) rfl, h'.2.at (i := 1) rfl, h'.2.at (i := 2) rfl⟩
            have sp : ∀ W X, P7 W → Below W.heap.size W X → P7 X := fun W X h hb => by
              rw [hP7] at h ⊢
              exact ⟨h.1.step hb, h.2.step hb⟩
            have GG := Lib.hid (sp _ _ gg ((Below.refl _ _).drew)); have KK := Lib.hid kk; have SP := Lib.hid sp; have HP7 := Lib.hid hP7
            clear hW5 m5 r5 hP7 gg kk sp x1 v0 e0 e1 e2
            refine wp_region_held_head (S := (fun W => (Hid (P7 W) ∧ W.cell? ⟨w.heap.size + 1 + 1, 1, none⟩ = some rv ∧ W.cell? ⟨w.heap.size + 1 + 1, 0, none⟩ = some (.slice VA n vc) ∧ W.cell? ⟨wr.heap.size, 0, none⟩ = some (.int .i64 y0) ∧ W.cell? ⟨wr.heap.size, 1, none⟩ = some (.int .i64 y1) ∧ W.cell? ⟨wr.heap.size, 2, none⟩ = some (.int .i64 y2)))) 16 (by kernel_rfl) (by kernel_rfl) ?_ (fun hHeld => ?_)
            · exact KK.out _ GG.out
            simp only [List.take_succ_cons, List.take_zero, List.drop_succ_cons, List.drop_zero]
            refine wpAnyH_take (i := 0) (oi := ⟨_, _, _, _, _, _⟩) (v := ?_) rfl (by kernel_rfl) (by kernel_rfl) (by kernel_rfl) (fun _ _ _ h => h) (Or.inl ⟨by rfl, ?_⟩) (by assumption) ?_
            rotate_left 1
            focus (intro w hSw; (try dsimp only at hSw); go_simp; (try with_reducible rfl))
            (try simp only [Act.put, List.setIfInBounds_toArray, List.set_cons_zero, List.set_cons_succ])
            refine wpAnyH_take (i := 1) (oi := ⟨_, _, _, _, _, _⟩) (v := ?_) rfl (by kernel_rfl) (by kernel_rfl) (by kernel_rfl) (fun _ _ _ h => h) (Or.inl ⟨by rfl, ?_⟩) (by assumption) ?_
            rotate_left 1
            focus (intro w hSw; (try dsimp only at hSw); go_simp; (try with_reducible rfl))
            (try simp only [Act.put, List.setIfInBounds_toArray, List.set_cons_zero, List.set_cons_succ])
            refine wpAnyH_take (i := 2) (oi := ⟨_, _, _, _, _, _⟩) (v := ?_) rfl (by kernel_rfl) (by kernel_rfl) (by kernel_rfl) (fun _ _ _ h => h) (Or.inl ⟨by rfl, ?_⟩) (by assumption) ?_
            rotate_left 1
            focus (intro w hSw; (try dsimp only at hSw); go_simp; (try with_reducible rfl))
            (try simp only [Act.put, List.setIfInBounds_toArray, List.set_cons_zero, List.set_cons_succ])
            refine wpAnyH_take (i := 3) (oi := ⟨_, _, _, _, _, _⟩) (v := ?_) rfl (by kernel_rfl) (by kernel_rfl) (by kernel_rfl) (fun _ _ _ h => h) (Or.inl ⟨by rfl, ?_⟩) (by assumption) ?_
            rotate_left 1
            focus (intro w hSw; (try dsimp only at hSw); go_simp; (try with_reducible rfl))
            (try simp only [Act.put, List.setIfInBounds_toArray, List.set_cons_zero, List.set_cons_succ])
            refine wpAnyH_take (i := 4) (oi := ⟨_, _, _, _, _, _⟩) (v := ?_) rfl (by kernel_rfl) (by kernel_rfl) (by kernel_rfl) (fun _ _ _ h => h) (Or.inl ⟨by rfl, ?_⟩) (by assumption) ?_
            rotate_left 1
            focus (intro w hSw; (try dsimp only at hSw); go_simp; (try with_reducible rfl))
            (try simp only [Act.put, List.setIfInBounds_toArray, List.set_cons_zero, List.set_cons_succ])
            refine wpAnyH_take (i := 5) (oi := ⟨_, _, _, _, _, _⟩) (v := ?_) rfl (by kernel_rfl) (by kernel_rfl) (by kernel_rfl) (fun _ _ _ h => h) (Or.inl ⟨by rfl, ?_⟩) (by assumption) ?_
            rotate_left 1
            focus (intro w hSw; (try dsimp only at hSw); go_simp; (try with_reducible rfl))
            (try simp only [Act.put, List.setIfInBounds_toArray, List.set_cons_zero, List.set_cons_succ])
            refine wpAnyH_take (i := 6) (oi := ⟨_, _, _, _, _, _⟩) (v := ?_) rfl (by kernel_rfl) (by kernel_rfl) (by kernel_rfl) (fun _ _ _ h => h) (Or.inl ⟨by rfl, ?_⟩) (by assumption) ?_
            rotate_left 1
            focus (intro w hSw; (try dsimp only at hSw); go_simp; (try with_reducible rfl))
            (try simp only [Act.put, List.setIfInBounds_toArray, List.set_cons_zero, List.set_cons_succ])
            refine wpAnyH_take (i := 8) (oi := ⟨_, _, _, _, _, _⟩) (v := ?_) rfl (by kernel_rfl) (by kernel_rfl) (by kernel_rfl) (fun _ _ _ h => h) (Or.inl ⟨by rfl, ?_⟩) (by assumption) ?_
            rotate_left 1
            focus (intro w hSw; (try dsimp only at hSw); go_simp; (try with_reducible rfl))
            (try simp only [Act.put, List.setIfInBounds_toArray, List.set_cons_zero, List.set_cons_succ])
            refine wpAnyH_take (i := 9) (oi := ⟨_, _, _, _, _, _⟩) (v := ?_) rfl (by kernel_rfl) (by kernel_rfl) (by kernel_rfl) (fun _ _ _ h => h) (Or.inl ⟨by rfl, ?_⟩) (by assumption) ?_
            rotate_left 1
            focus (intro w hSw; (try dsimp only at hSw); go_simp; (try with_reducible rfl))
            (try simp only [Act.put, List.setIfInBounds_toArray, List.set_cons_zero, List.set_cons_succ])
            refine wpAnyH_take (i := 11) (oi := ⟨_, _, _, _, _, _⟩) (v := ?_) rfl (by kernel_rfl) (by kernel_rfl) (by kernel_rfl) (fun _ _ _ h => h) (Or.inl ⟨by rfl, ?_⟩) (by assumption) ?_
            rotate_left 1
            focus (intro w hSw; (try dsimp only at hSw); go_simp; (try with_reducible rfl))
            (try simp only [Act.put, List.setIfInBounds_toArray, List.set_cons_zero, List.set_cons_succ])
            refine wpAnyH_take (i := 12) (oi := ⟨_, _, _, _, _, _⟩) (v := ?_) rfl (by kernel_rfl) (by kernel_rfl) (by kernel_rfl) (fun _ _ _ h => h) (Or.inl ⟨by rfl, ?_⟩) (by assumption) ?_
            rotate_left 1
            focus (intro w hSw; (try dsimp only at hSw); go_simp; (try with_reducible rfl))
            (try simp only [Act.put, List.setIfInBounds_toArray, List.set_cons_zero, List.set_cons_succ])
            refine wpAnyH_ready (rs := [7]) (by kernel_rfl) (by simp) ?_
            refine AllReadyH.cons (o := ⟨_, _, _, _, _, _⟩) rfl (fun K hK => ?_) ?_
            · go_simp
              go_at_call 27
              (with_reducible refine (P0.out _).mono ?_)
              rintro e wx ⟨rfl, hwx⟩; have hwx := hwx.symm; subst hwx
              refine hK.out _ _ ?_ (fun hHeld => ?_)
              · exact KK.out _ GG.out
              clear hK K
              (try simp only [Act.put, List.setIfInBounds_toArray, List.set_cons_zero, List.set_cons_succ])
              refine wpAnyH_ready (rs := [10]) (by kernel_rfl) (by simp) ?_
              refine AllReadyH.cons (o := ⟨_, _, _, _, _, _⟩) rfl (fun K hK => ?_) ?_
              · go_simp
                go_at_call 27
                (with_reducible refine (P1.out _).mono ?_)
                rintro e wx ⟨rfl, hwx⟩; have hwx := hwx.symm; subst hwx
                refine hK.out _ _ ?_ (fun hHeld => ?_)
                · exact KK.out _ GG.out
                clear hK K
                (try simp only [Act.put, List.setIfInBounds_toArray, List.set_cons_zero, List.set_cons_succ])
                refine wpAnyH_ready (rs := [13]) (by kernel_rfl) (by simp) ?_
                refine AllReadyH.cons (o := ⟨_, _, _, _, _, _⟩) rfl (fun K hK => ?_) ?_
                · go_simp
                  go_at_call 27
                  (with_reducible refine (P2.out _).mono ?_)
                  rintro e wx ⟨rfl, hwx⟩; have hwx := hwx.symm; subst hwx
                  refine hK.out _ _ ?_ (fun hHeld => ?_)
                  · exact KK.out _ GG.out
                  clear hK K
                  (try simp only [Act.put, List.setIfInBounds_toArray, List.set_cons_zero, List.set_cons_succ])
                  refine wpAnyH_take (i := 14) (oi := ⟨_, _, _, _, _, _⟩) (v := ?_) rfl (by kernel_rfl) (by kernel_rfl) (by kernel_rfl) (fun _ _ _ h => h) (Or.inl ⟨by rfl, ?_⟩) (by assumption) ?_
                  rotate_left 1
                  focus (intro w hSw; (try dsimp only at hSw); go_simp; (try with_reducible rfl))
                  (try simp only [Act.put, List.setIfInBounds_toArray, List.set_cons_zero, List.set_cons_succ])
                  refine wpAnyH_ready (rs := [15]) (by kernel_rfl) (by simp) ?_
                  refine AllReadyH.cons (o := ⟨_, _, _, _, _, _⟩) rfl (fun K hK => ?_) ?_
                  · go_simp
                    refine hK.out _ _ ?_ (fun hHeld => ?_)
                    · exact KK.out _ (SP.out _ _ GG.out (below_alloc _ _))
                    clear hK K
                    (try simp only [Act.put, List.setIfInBounds_toArray, List.set_cons_zero, List.set_cons_succ])
                    refine wpAnyH_done (by kernel_rfl) ?_ _
                    simp only [Exit.then]
                    obtain ⟨W7, hW7⟩ : ∃ W7, W7 = W5.drew.alloc (.cells (rplL (⟨a0, a1, a2⟩ : Rpl)).toArray 55) := ⟨_, rfl⟩
                    change wpList _ _ _ _ _ (W5.drew.alloc (.cells (rplL (⟨a0, a1, a2⟩ : Rpl)).toArray 55))
                    rw [← hW7]
                    have q7 : P7 W7 := by rw [hW7]; exact SP.out _ _ GG.out (below_alloc _ _)
                    rw [HP7.out] at q7
                    have m7 := q7.1
                    have hnew := new_at W5.drew 55 (rplL (⟨a0, a1, a2⟩ : Rpl))
                    rw [← hW7] at hnew
                    have hbase : w.heap.size ≤ W7.heap.size := m7.b.size
                    have M7 := Lib.hid m7; have HNEW := Lib.hid hnew
                    clear hW7 q7 m7 hnew
                    go_wp2_with (at_builtin; refine wpList_append_own _ rfl _ _ 31 rfl w.heap.size 55 ir (.agg #[.int .i64 0, .int .i64 0, .int .i64 0]) 3 24 Try.underlying31 INF.out.2.1.1 INF.out.2.1.2.1 INF.out.2.1.2.2.1 INF.out.2.1.2.2.2 rfl (by decide) _ _ _ rfl M7.out.o.r ⟨W5.drew.heap.size, 0, none⟩ 1 1 (rplL (⟨a0, a1, a2⟩ : Rpl)) rfl rfl HNEW.out (rplL_one _) (by unfold maxLen; omega) (by omega) hbase ?_; intro v' w8 own8 hg8 _; obtain ⟨g', cap', rfl⟩ := ownsRow_succ own8; have q8 := Mkd.addR (p := (⟨a0, a1, a2⟩ : Rpl)) M7.out hg8 own8; obtain ⟨hc8, m8⟩ := q8; obtain ⟨_, _, _, n3, n4, n5⟩ := hc8.three; have N8 := Lib.hid m8; clear own8 hg8 m8 hc8)
                    go_roundg (K2 - (k + 1))
                    case measure => omega
                    case rel => exact ⟨k + 1, _, _, by go_num, by omega, N8.out, Lib.hid (by rw [HNX.out, HRS.out])⟩
                  exact AllReadyH.nil
                exact AllReadyH.nil
              exact AllReadyH.nil
            exact AllReadyH.nil
          · obtain rfl : k = K2 := by
              by_cases n0 : n = 0
              · rw [if_pos n0] at hk2; omega
              · rw [if_neg n0] at hk2; omega
            have hrs : rs = if n = 0 then [] else (R.take 3).map (rplI n) := by
              rw [HRS.out]
              by_cases n0 : n = 0
              · rw [if_pos n0] at hk2 ⊢; rw [hk2]; rfl
              · rw [if_neg n0] at hk2 ⊢
                rw [hk2]
                rcases Nat.le_total 3 LR with e | e
                · rw [Nat.min_eq_left e]
                · rw [Nat.min_eq_right e, List.take_of_length_le (by rw [← HLR.out]; exact Nat.le_refl _), List.take_of_length_le (by rw [← HLR.out]; exact e)]
            have hor : ((k : Int) < (LR : Int) ∧ (k : Int) < 3 ∧ n = 0) ∨ ((k : Int) < (LR : Int) ∧ ¬ (k : Int) < 3) ∨ ¬ (k : Int) < (LR : Int) := by omega
            have hn8 : n ≤ 8 := by have := HN8.out; omega
            obtain ⟨RVA, rvc, rfl⟩ := own_len hM.o.r
            have MM := Lib.hid hM; have HRM := Lib.hid hrs
            clear hM hrs HRS hk hlt hk2
            go_upto_region 9 with (fail)
            go_cut [67] (fun s67 W => s67 = .bool false ∧ W = wr)
            case first =>
              rcases hor with ⟨q1, q2, q3⟩ | ⟨q1, q2⟩ | q1
              · subst q3
                go_wp2; go_meet; (case rel => exact ⟨rfl, rfl⟩)
              all_goals (go_wp2; go_meet; case rel => exact ⟨rfl, rfl⟩)
            case rest =>
              obtain ⟨rfl, hwc⟩ := hcut
              subst hwc
              clear hor x1 v0
              obtain ⟨wb2, hwb2⟩ : ∃ x, x = wc := ⟨_, rfl⟩
              rw [← hwb2] at MM ⊢
              clear hwb2
              go_wp2
              go_loopg [9, 10] (min 8 LF) (fun kx s9 s10 wr => ∃ (k : Nat) (fv : Value) (fs : List Fct), s9 = .int .i64 (k : Int) ∧ k + kx = min 8 LF ∧ Mkd w #[.slice CA LC cc, .slice RA LR rc, .slice FA LF fc] (.slice VA n vc) (.slice RVA rs.length rvc) fv cs rs fs wr ∧ Hid (fs = (F.take k).map fctI))
              case atStart => exact ⟨0, nilS, [], rfl, by omega, MM.out, Lib.hid (by simp)⟩
              case round =>
                clear MM
                obtain ⟨k, fv, fs, rfl, hk, hM, HFS⟩ := hrel
                have x2 := hM.x.at (i := 2) rfl
                by_cases hlt : k < 8 ∧ k < LF
                · obtain ⟨k8, kL⟩ := hlt
                  obtain ⟨y, hy⟩ : ∃ y, F[k]? = some y := at_lt (by rw [← HLF.out]; exact kL)
                  obtain ⟨bb, o, hA, _, e0, e1, e2, e3, e4, e5⟩ := (HF.out.below hM.b).six hy
                  subst hA
                  obtain ⟨j0, j1, j2, j3, j4, j5⟩ := IF.out _ (List.mem_of_getElem? hy)
                  have hcl : fctI y = ⟨pk y.1 3, pk y.2.1 6, (partI y.2.2.1 y.2.2.2.1).1, (partI y.2.2.1 y.2.2.2.1).2, (partI y.2.2.2.2.1 y.2.2.2.2.2).1, (partI y.2.2.2.2.1 y.2.2.2.2.2).2⟩ := rfl
                  have hnx : (F.take (k + 1)).map fctI = (F.take k).map fctI ++ [fctI y] := by rw [List.take_add_one, hy, List.map_append]; rfl
                  rw [hcl] at hnx
                  obtain ⟨y0, y1, y2, y3, y4, y5⟩ := y
                  dsimp only at e0 e1 e2 e3 e4 e5 j0 j1 j2 j3 j4 j5 hnx
                  have p0 := fun W => rpick_any y0 3 j0.1 j0.2 (by omega) (by omega) W
                  have p1 := fun W => rpick_any y1 6 j1.1 j1.2 (by omega) (by omega) W
                  have p2 := fun W => part_any y2 y3 j2 j3 W
                  have p3 := fun W => part_any y4 y5 j4 j5 W
                  generalize pk y0 3 = a0 at *
                  generalize pk y1 6 = a1 at *
                  generalize partI y2 y3 = s2 at *
                  generalize partI y4 y5 = s3 at *
                  obtain ⟨sf, se⟩ := s2
                  obtain ⟨kf, ke⟩ := s3
                  dsimp only at p2 p3 hnx
                  have HNX := Lib.hid hnx; have P0 := Lib.hid p0; have P1 := Lib.hid p1; have P2 := Lib.hid p2; have P3 := Lib.hid p3; have MM := Lib.hid hM
                  clear hnx p0 p1 p2 p3 hcl j0 j1 j2 j3 j4 j5
                  have kLi : (k : Int) < (LF : Int) := by omega
                  have hfl : fs.length ≤ 8 := by rw [HFS.out, List.length_map, List.length_take]; omega
                  go_upto_region 17 with (fail)
                  obtain ⟨W5, hW5⟩ : ∃ W5, W5 = wr.alloc (.cells #[.int .i64 y0, .int .i64 y1, .int .i64 y2, .int .i64 y3, .int .i64 y4, .int .i64 y5] 74) := ⟨_, rfl⟩
                  rw [← hW5]
                  have m5 := MM.out.step (Y := W5) (by rw [hW5]; exact below_alloc _ _)
                  have r5 : Row W5 wr.heap.size 74 #[.int .i64 y0, .int .i64 y1, .int .i64 y2, .int .i64 y3, .int .i64 y4, .int .i64 y5] := by rw [hW5]; exact Row.made _ _ _
                  obtain ⟨P7, hP7⟩ : ∃ P : World → Prop, P = fun W => Mkd w #[.slice CA LC cc, .slice RA LR rc, .slice (some ⟨bb, o, none⟩) LF fc] (.slice VA n vc) (.slice RVA rs.length rvc) fv cs rs fs W ∧ Row W wr.heap.size 74 #[.int .i64 y0, .int .i64 y1, .int .i64 y2, .int .i64 y3, .int .i64 y4, .int .i64 y5] := ⟨_, rfl⟩
                  have gg : P7 W5 := by rw [hP7]; exact ⟨m5, r5⟩
                  have kk : ∀ W, P7 W → (Hid (P7 W) ∧ W.cell? ⟨w.heap.size + 1 + 1, 2, none⟩ = some fv ∧ W.cell? ⟨wr.heap.size, 0, none⟩ = some (.int .i64 y0) ∧ W.cell? ⟨wr.heap.size, 1, none⟩ = some (.int .i64 y1) ∧ W.cell? ⟨wr.heap.size, 2, none⟩ = some (.int .i64 y2) ∧ W.cell? ⟨wr.heap.size, 3, none⟩ = some (.int .i64 y3) ∧ W.cell? ⟨wr.heap.size, 4, none⟩ = some (.int .i64 y4) ∧ W.cell? ⟨wr.heap.size, 5, none⟩ = some (.int .i64 y5)) := fun W h => by
                    have h' := h
                    rw [hP7] at h'
                    exact ⟨Lib.hid h, h'.1.c.at (i := 2) rfl, h'.2.at (i := 0) rfl, h'.2.at (i := 1) rfl, h'.2.at (i := 2) rfl, h'.2.at (i := 3) rfl, h'.2.at (i := 4) rfl, h'.2.at (i := 5) rfl⟩
                  have sp : ∀ W X, P7 W → Below W.heap.size W X → P7 X := fun W X h hb => by
                    rw [hP7] at h ⊢
                    exact ⟨h.1.step hb, h.2.step hb⟩
                  have GG := Lib.hid (sp _ _ gg ((Below.refl _ _).drew)); have KK := Lib.hid kk; have SP := Lib.hid sp; have HP7 := Lib.hid hP7
                  clear hW5 m5 r5 hP7 gg kk sp x2 e0 e1 e2 e3 e4 e5
                  refine wp_region_held_head (S := (fun W => (Hid (P7 W) ∧ W.cell? ⟨w.heap.size + 1 + 1, 2, none⟩ = some fv ∧ W.cell? ⟨wr.heap.size, 0, none⟩ = some (.int .i64 y0) ∧ W.cell? ⟨wr.heap.size, 1, none⟩ = some (.int .i64 y1) ∧ W.cell? ⟨wr.heap.size, 2, none⟩ = some (.int .i64 y2) ∧ W.cell? ⟨wr.heap.size, 3, none⟩ = some (.int .i64 y3) ∧ W.cell? ⟨wr.heap.size, 4, none⟩ = some (.int .i64 y4) ∧ W.cell? ⟨wr.heap.size, 5, none⟩ = some (.int .i64 y5)))) 20 (by kernel_rfl) (by kernel_rfl) ?_ (fun hHeld => ?_)
                  · exact KK.out _ GG.out
                  simp only [List.take_succ_cons, List.take_zero, List.drop_succ_cons, List.drop_zero]
                  refine wpAnyH_take (i := 0) (oi := ⟨_, _, _, _, _, _⟩) (v := ?_) rfl (by kernel_rfl) (by kernel_rfl) (by kernel_rfl) (fun _ _ _ h => h) (Or.inl ⟨by rfl, ?_⟩) (by assumption) ?_
                  rotate_left 1
                  focus (intro w hSw; (try dsimp only at hSw); go_simp; (try with_reducible rfl))
                  (try simp only [Act.put, List.setIfInBounds_toArray, List.set_cons_zero, List.set_cons_succ])
                  refine wpAnyH_take (i := 1) (oi := ⟨_, _, _, _, _, _⟩) (v := ?_) rfl (by kernel_rfl) (by kernel_rfl) (by kernel_rfl) (fun _ _ _ h => h) (Or.inl ⟨by rfl, ?_⟩) (by assumption) ?_
                  rotate_left 1
                  focus (intro w hSw; (try dsimp only at hSw); go_simp; (try with_reducible rfl))
                  (try simp only [Act.put, List.setIfInBounds_toArray, List.set_cons_zero, List.set_cons_succ])
                  refine wpAnyH_take (i := 2) (oi := ⟨_, _, _, _, _, _⟩) (v := ?_) rfl (by kernel_rfl) (by kernel_rfl) (by kernel_rfl) (fun _ _ _ h => h) (Or.inl ⟨by rfl, ?_⟩) (by assumption) ?_
                  rotate_left 1
                  focus (intro w hSw; (try dsimp only at hSw); go_simp; (try with_reducible rfl))
                  (try simp only [Act.put, List.setIfInBounds_toArray, List.set_cons_zero, List.set_cons_succ])
                  refine wpAnyH_take (i := 3) (oi := ⟨_, _, _, _, _, _⟩) (v := ?_) rfl (by kernel_rfl) (by kernel_rfl) (by kernel_rfl) (fun _ _ _ h => h) (Or.inl ⟨by rfl, ?_⟩) (by assumption) ?_
                  rotate_left 1
                  focus (intro w hSw; (try dsimp only at hSw); go_simp; (try with_reducible rfl))
                  (try simp only [Act.put, List.setIfInBounds_toArray, List.set_cons_zero, List.set_cons_succ])
                  refine wpAnyH_take (i := 5) (oi := ⟨_, _, _, _, _, _⟩) (v := ?_) rfl (by kernel_rfl) (by kernel_rfl) (by kernel_rfl) (fun _ _ _ h => h) (Or.inl ⟨by rfl, ?_⟩) (by assumption) ?_
                  rotate_left 1
                  focus (intro w hSw; (try dsimp only at hSw); go_simp; (try with_reducible rfl))
                  (try simp only [Act.put, List.setIfInBounds_toArray, List.set_cons_zero, List.set_cons_succ])
                  refine wpAnyH_take (i := 6) (oi := ⟨_, _, _, _, _, _⟩) (v := ?_) rfl (by kernel_rfl) (by kernel_rfl) (by kernel_rfl) (fun _ _ _ h => h) (Or.inl ⟨by rfl, ?_⟩) (by assumption) ?_
                  rotate_left 1
                  focus (intro w hSw; (try dsimp only at hSw); go_simp; (try with_reducible rfl))
                  (try simp only [Act.put, List.setIfInBounds_toArray, List.set_cons_zero, List.set_cons_succ])
                  refine wpAnyH_take (i := 8) (oi := ⟨_, _, _, _, _, _⟩) (v := ?_) rfl (by kernel_rfl) (by kernel_rfl) (by kernel_rfl) (fun _ _ _ h => h) (Or.inl ⟨by rfl, ?_⟩) (by assumption) ?_
                  rotate_left 1
                  focus (intro w hSw; (try dsimp only at hSw); go_simp; (try with_reducible rfl))
                  (try simp only [Act.put, List.setIfInBounds_toArray, List.set_cons_zero, List.set_cons_succ])
                  refine wpAnyH_take (i := 9) (oi := ⟨_, _, _, _, _, _⟩) (v := ?_) rfl (by kernel_rfl) (by kernel_rfl) (by kernel_rfl) (fun _ _ _ h => h) (Or.inl ⟨by rfl, ?_⟩) (by assumption) ?_
                  rotate_left 1
                  focus (intro w hSw; (try dsimp only at hSw); go_simp; (try with_reducible rfl))
                  (try simp only [Act.put, List.setIfInBounds_toArray, List.set_cons_zero, List.set_cons_succ])
                  refine wpAnyH_take (i := 10) (oi := ⟨_, _, _, _, _, _⟩) (v := ?_) rfl (by kernel_rfl) (by kernel_rfl) (by kernel_rfl) (fun _ _ _ h => h) (Or.inl ⟨by rfl, ?_⟩) (by assumption) ?_
                  rotate_left 1
                  focus (intro w hSw; (try dsimp only at hSw); go_simp; (try with_reducible rfl))
                  (try simp only [Act.put, List.setIfInBounds_toArray, List.set_cons_zero, List.set_cons_succ])
                  refine wpAnyH_take (i := 11) (oi := ⟨_, _, _, _, _, _⟩) (v := ?_) rfl (by kernel_rfl) (by kernel_rfl) (by kernel_rfl) (fun _ _ _ h => h) (Or.inl ⟨by rfl, ?_⟩) (by assumption) ?_
                  rotate_left 1
                  focus (intro w hSw; (try dsimp only at hSw); go_simp; (try with_reducible rfl))
                  (try simp only [Act.put, List.setIfInBounds_toArray, List.set_cons_zero, List.set_cons_succ])
                  refine wpAnyH_take (i := 13) (oi := ⟨_, _, _, _, _, _⟩) (v := ?_) rfl (by kernel_rfl) (by kernel_rfl) (by kernel_rfl) (fun _ _ _ h => h) (Or.inl ⟨by rfl, ?_⟩) (by assumption) ?_
                  rotate_left 1
                  focus (intro w hSw; (try dsimp only at hSw); go_simp; (try with_reducible rfl))
                  (try simp only [Act.put, List.setIfInBounds_toArray, List.set_cons_zero, List.set_cons_succ])
                  refine wpAnyH_take (i := 14) (oi := ⟨_, _, _, _, _, _⟩) (v := ?_) rfl (by kernel_rfl) (by kernel_rfl) (by kernel_rfl) (fun _ _ _ h => h) (Or.inl ⟨by rfl, ?_⟩) (by assumption) ?_
                  rotate_left 1
                  focus (intro w hSw; (try dsimp only at hSw); go_simp; (try with_reducible rfl))
                  (try simp only [Act.put, List.setIfInBounds_toArray, List.set_cons_zero, List.set_cons_succ])
                  refine wpAnyH_take (i := 15) (oi := ⟨_, _, _, _, _, _⟩) (v := ?_) rfl (by kernel_rfl) (by kernel_rfl) (by kernel_rfl) (fun _ _ _ h => h) (Or.inl ⟨by rfl, ?_⟩) (by assumption) ?_
                  rotate_left 1
                  focus (intro w hSw; (try dsimp only at hSw); go_simp; (try with_reducible rfl))
                  (try simp only [Act.put, List.setIfInBounds_toArray, List.set_cons_zero, List.set_cons_succ])
                  refine wpAnyH_take (i := 16) (oi := ⟨_, _, _, _, _, _⟩) (v := ?_) rfl (by kernel_rfl) (by kernel_rfl) (by kernel_rfl) (fun _ _ _ h => h) (Or.inl ⟨by rfl, ?_⟩) (by assumption) ?_
                  rotate_left 1
                  focus (intro w hSw; (try dsimp only at hSw); go_simp; (try with_reducible rfl))
                  (try simp only [Act.put, List.setIfInBounds_toArray, List.set_cons_zero, List.set_cons_succ])
                  refine wpAnyH_ready (rs := [4]) (by kernel_rfl) (by simp) ?_
                  refine AllReadyH.cons (o := ⟨_, _, _, _, _, _⟩) rfl (fun K hK => ?_) ?_
                  · go_simp
                    go_at_call 27
                    (with_reducible refine (P0.out _).mono ?_)
                    rintro e wx ⟨rfl, hwx⟩; have hwx := hwx.symm; subst hwx
                    refine hK.out _ _ ?_ (fun hHeld => ?_)
                    · exact KK.out _ GG.out
                    clear hK K
                    (try simp only [Act.put, List.setIfInBounds_toArray, List.set_cons_zero, List.set_cons_succ])
                    refine wpAnyH_ready (rs := [7]) (by kernel_rfl) (by simp) ?_
                    refine AllReadyH.cons (o := ⟨_, _, _, _, _, _⟩) rfl (fun K hK => ?_) ?_
                    · go_simp
                      go_at_call 27
                      (with_reducible refine (P1.out _).mono ?_)
                      rintro e wx ⟨rfl, hwx⟩; have hwx := hwx.symm; subst hwx
                      refine hK.out _ _ ?_ (fun hHeld => ?_)
                      · exact KK.out _ GG.out
                      clear hK K
                      (try simp only [Act.put, List.setIfInBounds_toArray, List.set_cons_zero, List.set_cons_succ])
                      refine wpAnyH_ready (rs := [12]) (by kernel_rfl) (by simp) ?_
                      refine AllReadyH.cons (o := ⟨_, _, _, _, _, _⟩) rfl (fun K hK => ?_) ?_
                      · go_simp
                        go_at_call 28
                        (with_reducible refine (P2.out _).mono ?_)
                        rintro e w4 ⟨rfl, b4⟩; have hP4 := SP.out _ _ GG.out b4; clear b4
                        refine hK.out _ _ ?_ (fun hHeld => ?_)
                        · exact KK.out _ hP4
                        clear hK K
                        (try simp only [Act.put, List.setIfInBounds_toArray, List.set_cons_zero, List.set_cons_succ])
                        refine wpAnyH_ready (rs := [17]) (by kernel_rfl) (by simp) ?_
                        refine AllReadyH.cons (o := ⟨_, _, _, _, _, _⟩) rfl (fun K hK => ?_) ?_
                        · go_simp
                          go_at_call 28
                          (with_reducible refine (P3.out _).mono ?_)
                          rintro e w5 ⟨rfl, b5⟩; have hP5 := SP.out _ _ hP4 b5; clear b5
                          refine hK.out _ _ ?_ (fun hHeld => ?_)
                          · exact KK.out _ hP5
                          clear hK K
                          (try simp only [Act.put, List.setIfInBounds_toArray, List.set_cons_zero, List.set_cons_succ])
                          refine wpAnyH_take (i := 18) (oi := ⟨_, _, _, _, _, _⟩) (v := ?_) rfl (by kernel_rfl) (by kernel_rfl) (by kernel_rfl) (fun _ _ _ h => h) (Or.inl ⟨by rfl, ?_⟩) (by assumption) ?_
                          rotate_left 1
                          focus (intro w hSw; (try dsimp only at hSw); go_simp; (try with_reducible rfl))
                          (try simp only [Act.put, List.setIfInBounds_toArray, List.set_cons_zero, List.set_cons_succ])
                          refine wpAnyH_ready (rs := [19]) (by kernel_rfl) (by simp) ?_
                          refine AllReadyH.cons (o := ⟨_, _, _, _, _, _⟩) rfl (fun K hK => ?_) ?_
                          · go_simp
                            refine hK.out _ _ ?_ (fun hHeld => ?_)
                            · exact KK.out _ (SP.out _ _ hP5 (below_alloc _ _))
                            clear hK K
                            (try simp only [Act.put, List.setIfInBounds_toArray, List.set_cons_zero, List.set_cons_succ])
                            refine wpAnyH_done (by kernel_rfl) ?_ _
                            simp only [Exit.then]
                            obtain ⟨W7, hW7⟩ : ∃ W7, W7 = w5.alloc (.cells (fctL (⟨a0, a1, sf, se, kf, ke⟩ : Fct)).toArray 57) := ⟨_, rfl⟩
                            change wpList _ _ _ _ _ (w5.alloc (.cells (fctL (⟨a0, a1, sf, se, kf, ke⟩ : Fct)).toArray 57))
                            rw [← hW7]
                            have q7 : P7 W7 := by rw [hW7]; exact SP.out _ _ hP5 (below_alloc _ _)
                            rw [HP7.out] at q7
                            have m7 := q7.1
                            have hnew := new_at w5 57 (fctL (⟨a0, a1, sf, se, kf, ke⟩ : Fct))
                            rw [← hW7] at hnew
                            have hbase : w.heap.size ≤ W7.heap.size := m7.b.size
                            have M7 := Lib.hid m7; have HNEW := Lib.hid hnew
                            clear hW7 q7 m7 hnew
                            go_wp2_with (at_builtin; refine wpList_append_own _ rfl _ _ 32 rfl w.heap.size 57 if_ (.agg #[.int .i64 0, .int .i64 0, .int .i64 0, .int .i64 0, .int .i64 0, .int .i64 0]) 6 48 Try.underlying32 INF.out.2.2.1 INF.out.2.2.2.1 INF.out.2.2.2.2.1 INF.out.2.2.2.2.2 rfl (by decide) _ _ _ rfl M7.out.o.f ⟨w5.heap.size, 0, none⟩ 1 1 (fctL (⟨a0, a1, sf, se, kf, ke⟩ : Fct)) rfl rfl HNEW.out (fctL_one _) (by unfold maxLen; omega) (by omega) hbase ?_; intro v' w8 own8 hg8 _; obtain ⟨g', cap', rfl⟩ := ownsRow_succ own8; have q8 := Mkd.addF (p := (⟨a0, a1, sf, se, kf, ke⟩ : Fct)) M7.out hg8 own8; obtain ⟨hc8, m8⟩ := q8; obtain ⟨_, _, _, n3, n4, n5⟩ := hc8.three; have N8 := Lib.hid m8; clear own8 hg8 m8 hc8)
                            go_roundg (min 8 LF - (k + 1))
                            case measure => omega
                            case rel => exact ⟨k + 1, _, _, by go_num, by omega, N8.out, Lib.hid (by rw [HNX.out, HFS.out])⟩
                          exact AllReadyH.nil
                        exact AllReadyH.nil
                      exact AllReadyH.nil
                    exact AllReadyH.nil
                  exact AllReadyH.nil
                · obtain rfl : k = min 8 LF := by omega
                  have hfs : fs = (F.take 8).map fctI := by
                    rw [HFS.out]
                    rcases Nat.le_total 8 LF with e | e
                    · rw [Nat.min_eq_left e]
                    · rw [Nat.min_eq_right e, List.take_of_length_le (by rw [← HLF.out]; exact Nat.le_refl _), List.take_of_length_le (by rw [← HLF.out]; exact e)]
                  have hor : (((min 8 LF : Nat) : Int) < (LF : Int) ∧ ¬ ((min 8 LF : Nat) : Int) < 8) ∨ ¬ ((min 8 LF : Nat) : Int) < (LF : Int) := by omega
                  obtain ⟨FVA, fvc, rfl⟩ := own_len hM.o.f
                  have hfin : madeB C R F = ⟨cs.map (·.1), rs, fs⟩ := by
                    unfold madeB
                    rw [HCM.out, hfs, HRM.out, ← HLC.out, ← HN8.out]
                    congr 1
                    by_cases n0 : n = 0
                    · have : C = [] := List.eq_nil_of_length_eq_zero (by rw [← HLC.out]; have := HN8.out; omega)
                      rw [if_pos n0, if_pos this]
                    · have : C ≠ [] := fun e => by
                        have h1 := HLC.out
                        have h2 := HN8.out
                        rw [e] at h1
                        simp at h1
                        omega
                      rw [if_neg n0, if_neg this]
                  obtain ⟨r0, r1, r2, f0, f1, f2⟩ := hM.r.three
                  obtain ⟨c0, c1, c2, _, _, _⟩ := hM.c.three
                  have MM := Lib.hid hM; have HFN := Lib.hid hfin
                  clear hM hfs HFS hk hlt hfin
                  go_upto_region 14 with (fail)
                  go_cut [101] (fun s101 W => s101 = .bool false ∧ W = wr)
                  case first =>
                    rcases hor with ⟨q1, q2⟩ | q1
                    all_goals (go_wp2; go_meet; case rel => exact ⟨rfl, rfl⟩)
                  case rest =>
                    obtain ⟨rfl, hwc⟩ := hcut
                    subst hwc
                    clear hor
                    go_upto_region 18 with (fail)
                    go_wp2
                    refine bodyPost_ret (res_bk rfl rfl (((MM.out.r.stored 0 _).stored 1 _).stored 2 _)) rfl ?_
                    refine ⟨_, _, _, cs, rfl, ?_, by rw [HFN.out], (((MM.out.b.setCell (p := ⟨w.heap.size + 1, 0, none⟩) (Nat.le_succ _) _).setCell (p := ⟨w.heap.size + 1, 1, none⟩) (Nat.le_succ _) _).setCell (p := ⟨w.heap.size + 1, 2, none⟩) (Nat.le_succ _) _)⟩
                    rw [HFN.out]
                    have o1 := MM.out.o.aside MM.out.r (by decide) 0 (.slice VA n vc)
                    have o2 := o1.aside (MM.out.r.stored 0 _) (by decide) 1 (.slice RVA rs.length rvc)
                    exact o2.aside ((MM.out.r.stored 0 _).stored 1 _) (by decide) 2 (.slice FVA fs.length fvc)
end Go.Proofs.Ytiglkecmamnphaa
