/- Copy: rules of the call's own that say the same. -/
import Derived.Test.YtiglkecmamnphaaPx
namespace Go.Proofs.Ytiglkecmamnphaa
open Go.RowKit Go.Sort Go.Lib

def i1 (x : Int) : List Value := [.int .i64 x]
theorem i1_len (x : Int) : (i1 x).length = 1 := rfl
theorem i1_one (x : Int) : ∀ u ∈ i1 x, u.oneCell' = true := by
  intro u hu
  simp only [i1, List.mem_cons, List.not_mem_nil, or_false] at hu
  subst hu; rfl
theorem iC_G (l : List Int) : iC l = flG i1 l := by
  induction l with
  | nil => rfl
  | cons x l ih => rw [flG_cons, ← ih]; rfl
theorem nums_cells {W : World} {B : Nat} {A : Option Addr} {l : List Int} (h : Nums W B A l) : Cells W B A 1 (l.map fun x => (i1 x).toArray) := by
  rcases h with rfl | ⟨b, o, hA, hB, hc⟩
  · exact .inl rfl
  · refine .inr ⟨b, o, hA, hB, fun i C hC j v hv => ?_⟩
    rw [List.getElem?_map] at hC
    cases hx : l[i]? with
    | none => rw [hx] at hC; cases hC
    | some x =>
      rw [hx] at hC
      cases hC
      match j, hv with
      | 0, hv =>
        cases hv
        have := hc i x hx
        rwa [show o + i * 1 + 0 = o + i by omega]
/-- Memory while Copy runs. -/
structure Cpy (w : World) (X : Array Value) (cv rv fv : Value) (cs : List CV) (rs : List Rpl) (fs : List Fct) (W : World) : Prop where
  x : Row W w.heap.size 34 X
  r : Row W (w.heap.size + 1) 34 #[nilS, nilS, nilS]
  c : Row W (w.heap.size + 1 + 1) 34 #[cv, rv, fv]
  o : OwnB W w.heap.size cv rv fv cs rs fs
  b : Below w.heap.size w W
section
variable {w W Y : World} {X : Array Value} {cv rv fv : Value} {cs : List CV} {rs : List Rpl} {fs : List Fct}
theorem Cpy.step (h : Cpy w X cv rv fv cs rs fs W) (hb : Below W.heap.size W Y) : Cpy w X cv rv fv cs rs fs Y := ⟨h.x.step hb, h.r.step hb, h.c.step hb, h.o.step hb, below_step h.b hb⟩
theorem Cpy.putc {cv' rv' fv' u : Value} {cs' : List CV} {rs' : List Rpl} {fs' : List Fct} (i : Nat) (hx : Row W w.heap.size 34 X) (hr : Row W (w.heap.size + 1) 34 #[nilS, nilS, nilS]) (hc : Row W (w.heap.size + 1 + 1) 34 #[cv, rv, fv]) (ho : OwnB W w.heap.size cv' rv' fv' cs' rs' fs') (hb : Below w.heap.size w W)
    (he : (#[cv, rv, fv] : Array Value).setIfInBounds i u = #[cv', rv', fv']) : Cpy w X cv' rv' fv' cs' rs' fs' (W.setCell ⟨w.heap.size + 1 + 1, i, none⟩ u) :=
  ⟨hx.aside (p := ⟨w.heap.size + 1 + 1, i, none⟩) (by show w.heap.size + 1 + 1 ≠ _; omega) _, hr.aside (p := ⟨w.heap.size + 1 + 1, i, none⟩) (by show w.heap.size + 1 + 1 ≠ _; omega) _, by rw [← he]; exact hc.stored i u, ho.aside hc (by decide) i u, hb.setCell (p := ⟨w.heap.size + 1 + 1, i, none⟩) (by show w.heap.size ≤ w.heap.size + 1 + 1; omega) _⟩
theorem Cpy.addC {w1 : World} {cv' : Value} {p : CV} (h : Cpy w X cv rv fv cs rs fs W) (hp : IRow W p.2.1 p.1.needs ∧ IRow W p.2.2 p.1.bars) (hg : W.grownBy w1 cv.ownBlock) (ho : w1.ownsRow w.heap.size 51 6 cv' (cs.length + 1) (flG clsL cs ++ clsL p)) :
    Row w1 (w.heap.size + 1 + 1) 34 #[cv, rv, fv] ∧ Cpy w X cv' rv fv (cs ++ [p]) rs fs (w1.setCell ⟨w.heap.size + 1 + 1, 0, none⟩ cv') := by
  have keep : ∀ g t C, Row W g t C → t ≠ 51 → Row w1 g t C := fun g t C hr hne => hr.grown hg (own_row3 h.o.c hr hne)
  have hc := keep _ _ _ h.c (by decide)
  exact ⟨hc, Cpy.putc 0 (keep _ _ _ h.x (by decide)) (keep _ _ _ h.r (by decide)) hc (h.o.addC hp hg ho) (keep_grown h.b hg h.o.c) rfl⟩
/-- New rows in the place of the repeals, of the facts. -/
theorem Cpy.putR {rv' : Value} {rs' : List Rpl} (h : Cpy w X cv rv fv cs rs fs W) (ho : W.ownsRow w.heap.size 55 3 rv' rs'.length (flG rplL rs')) : Cpy w X cv rv' fv cs rs' fs (W.setCell ⟨w.heap.size + 1 + 1, 1, none⟩ rv') :=
  Cpy.putc 1 h.x h.r h.c ⟨h.o.c, h.o.n, ho, h.o.f⟩ h.b rfl
theorem Cpy.putF {fv' : Value} {fs' : List Fct} (h : Cpy w X cv rv fv cs rs fs W) (ho : W.ownsRow w.heap.size 57 6 fv' fs'.length (flG fctL fs')) : Cpy w X cv rv fv' cs rs fs' (W.setCell ⟨w.heap.size + 1 + 1, 2, none⟩ fv') :=
  Cpy.putc 2 h.x h.r h.c ⟨h.o.c, h.o.n, h.o.r, ho⟩ h.b rfl
end
/-- A new row, whatever its element: nothing that stood has turned. -/
theorem below_own {W X : World} {e : TypeId} {k n : Nat} {v : Value} {xs : List Value} (ho : W.ownsRow W.heap.size e k v n xs) (hg : W.grownBy X v.ownBlock) : Below W.heap.size W X := (Below.refl _ _).grown hg (Nat.le_refl _) (fun j ej => (ho.lt j ej).1)
theorem below_own2 {W0 W X : World} {e : TypeId} {k n : Nat} {v : Value} {xs : List Value} (hb : Below W0.heap.size W0 W) (ho : W.ownsRow W0.heap.size e k v n xs) (hg : W.grownBy X v.ownBlock) : Below W0.heap.size W0 X := hb.grown hg hb.size (fun j ej => (ho.lt j ej).1)
theorem row6 {w : World} {g : Nat} {t : TypeId} {a b c d e f : Value} (h : Row w g t #[a, b, c, d, e, f]) : w.cell? ⟨g, 0, none⟩ = some a ∧ w.cell? ⟨g, 1, none⟩ = some b ∧ w.cell? ⟨g, 2, none⟩ = some c ∧ w.cell? ⟨g, 3, none⟩ = some d ∧ w.cell? ⟨g, 4, none⟩ = some e ∧ w.cell? ⟨g, 5, none⟩ = some f := ⟨h.at rfl, h.at rfl, h.at rfl, h.at rfl, h.at rfl, h.at rfl⟩
theorem int_info : (Try.prog.info? 3).map (fun i => (i.zero, i.size, i.bytes)) = some (some (.int .i64 0), 1, 8) := by kernel_rfl
theorem RowsV.cells {w : World} {B k n c : Nat} {A : Option Addr} {ls : List (Array Value)} (h : RowsV w B (.slice A n c) k ls) : Cells w B A k ls := by
  obtain ⟨A', c', h1, _, h3⟩ := h
  cases h1
  exact h3
/-- Lengths that Copy asks. -/
def Small (b : Bk) : Prop := b.cls.length ≤ 20 ∧ b.rpl.length ≤ 10 ∧ b.fct.length ≤ 20 ∧ ∀ c ∈ b.cls, c.needs.length ≤ 4 ∧ c.bars.length ≤ 4
theorem small_of {b : Bk} (h : validB b = true) : Small b := by
  simp only [validB, Bool.and_eq_true, decide_eq_true_eq, List.all_eq_true] at h
  refine ⟨h.1.1.1.1.1, h.1.1.1.1.2, h.1.1.1.2, fun c hc => ?_⟩
  have := h.1.1.2 c hc
  simp only [clsB, termsB, Bool.and_eq_true, decide_eq_true_eq] at this
  exact ⟨this.1.2.1, this.2.1⟩

set_option maxRecDepth 100000 in
set_option maxHeartbeats 16000000 in
theorem copy_any (b : Bk) (hs : Small b) (A1 : Option Addr) (c1 : Nat) (A2 : Option Addr) (c2 : Nat) (A3 : Option Addr) (c3 : Nat) (w : World) (hw : BkV w w.heap.size (.slice A1 b.cls.length c1) (.slice A2 b.rpl.length c2) (.slice A3 b.fct.length c3) b) :
    Calls Try.prog 15 #[bkA A1 b.cls.length c1 A2 b.rpl.length c2 A3 b.fct.length c3] w fun e w' => ∃ cv rv fv cs, e = .returned (.agg #[cv, rv, fv]) ∧ OwnB w' w.heap.size cv rv fv cs b.rpl b.fct ∧ cs.map (·.1) = b.cls ∧ Below w.heap.size w w' := by
  obtain ⟨NC, hNC⟩ : ∃ L, L = b.cls.length := ⟨_, rfl⟩
  obtain ⟨NR, hNR⟩ : ∃ L, L = b.rpl.length := ⟨_, rfl⟩
  obtain ⟨NF, hNF⟩ : ∃ L, L = b.fct.length := ⟨_, rfl⟩
  obtain ⟨ic, hc0, hcz, hcs, hcb⟩ := info_parts cls_info
  obtain ⟨s1, s2, s3, s4⟩ := hs
  rw [← hNC] at hw s1 ⊢
  rw [← hNR] at hw s2 ⊢
  rw [← hNF] at hw s3 ⊢
  obtain ⟨W0, hW0⟩ : ∃ W0, W0 = ((w.alloc (.cells #[.slice A1 NC c1, .slice A2 NR c2, .slice A3 NF c3] 34)).alloc (.cells #[nilS, nilS, nilS] 34)).alloc (.cells #[nilS, nilS, nilS] 34) := ⟨_, rfl⟩
  have st : Cpy w #[.slice A1 NC c1, .slice A2 NR c2, .slice A3 NF c3] nilS nilS nilS [] [] [] W0 := by
    rw [hW0]
    exact ⟨((Row.made _ _ _).later _).later _, (Row.made_at _ _ _ (by simp)).later _, Row.made_at _ _ _ (by simp), OwnB.none _ _, keep_alloc (keep_alloc (below_alloc _ _) _) _⟩
  have ST := Lib.hid st; have HW := Lib.hid hw; have HNC := Lib.hid hNC; have HNR := Lib.hid hNR; have HNF := Lib.hid hNF; have S4 := Lib.hid s4; have INF := Lib.hid (And.intro hc0 (And.intro hcz (And.intro hcs hcb)))
  clear st hw hNC hNR hNF s4 hc0 hcz hcs hcb
  go_enter Try.func15, Try.ntmps15
  go_upto_region 2 with (fail)
  rw [← hW0]
  clear hW0
  go_wp2
  go_loopg [4, 5] NC (fun kx s4 s5 wr => ∃ (k : Nat) (cv : Value) (cs : List CV), s4 = .int .i64 (k : Int) ∧ k + kx = NC ∧ Cpy w #[.slice A1 NC c1, .slice A2 NR c2, .slice A3 NF c3] cv nilS nilS cs [] [] wr ∧ Hid (cs.map (·.1) = b.cls.take k))
  case atStart => exact ⟨0, nilS, [], rfl, by omega, ST.out, Lib.hid (by simp)⟩
  case round =>
    clear ST
    obtain ⟨k, cv, cs, rfl, hk, hM, HCS⟩ := hrel
    have x0 := hM.x.at (i := 0) rfl
    by_cases hlt : k < NC
    · obtain ⟨x, hx⟩ : ∃ x, b.cls[k]? = some x := at_lt (by rw [← HNC.out]; exact hlt)
      have hwr := (HW.out.below hM.b)
      obtain ⟨bb, o, NA, BA, nc, bc, hA, _, ⟨hn9, hn⟩, ⟨hb9, hbr⟩, e0, e1, e2, e3, e4, e5⟩ := hwr.1.get hx
      subst hA
      have hnx : b.cls.take (k + 1) = b.cls.take k ++ [x] := by rw [List.take_add_one, hx]; rfl
      have h4 := S4.out x (List.mem_of_getElem? hx)
      have hcl : cs.length ≤ 20 := by
        have := congrArg List.length HCS.out
        rw [List.length_map, List.length_take] at this
        omega
      obtain ⟨pub, sf, se, needs, bars, gives⟩ := x
      dsimp only at e0 e1 e2 e3 e4 e5 hn hbr hn9 hb9 h4
      obtain ⟨nl, hnl⟩ : ∃ n, n = needs.length := ⟨_, rfl⟩
      obtain ⟨bl, hbl⟩ : ∃ n, n = bars.length := ⟨_, rfl⟩
      rw [← hnl] at e3 h4
      rw [← hbl] at e4 h4
      obtain ⟨n4, b4⟩ := h4
      have HNX := Lib.hid hnx; have MM := Lib.hid hM; have HN := Lib.hid hn; have HBR := Lib.hid hbr; have HNL := Lib.hid hnl; have HBL := Lib.hid hbl
      clear hnx hM hn hbr hnl hbl hn9 hb9 hwr hx
      have kLi : (k : Int) < (NC : Int) := by omega
      go_upto_region 6 with (fail)
      obtain ⟨W5, hW5⟩ : ∃ W5, W5 = wr.alloc (.cells #[.int .i64 pub, .int .i64 sf, .int .i64 se, .slice NA nl nc, .slice BA bl bc, .int .i64 gives] 51) := ⟨_, rfl⟩
      rw [← hW5]
      have b5 : Below wr.heap.size wr W5 := by rw [hW5]; exact below_alloc _ _
      have r5 : Row W5 wr.heap.size 51 #[.int .i64 pub, .int .i64 sf, .int .i64 se, .slice NA nl nc, .slice BA bl bc, .int .i64 gives] := by rw [hW5]; exact Row.made _ _ _
      have BW := Lib.hid (below_step MM.out.b b5)
      have n3 := r5.at (i := 3) rfl
      have f3 := r5.free 3
      have in5 := r5.inside
      have eN := own_e (e := 3) (k := 1) (enc := i1) W5 W5.heap.size (Nat.le_refl _)
      have nN := fun (W : World) (hb : Below wr.heap.size wr W) => nums_cells ((HN.out.below (hb.mono MM.out.b.size)).more (Nat.le_trans MM.out.b.size hb.size))
      have nB := fun (W : World) (hb : Below wr.heap.size wr W) => nums_cells ((HBR.out.below (hb.mono MM.out.b.size)).more (Nat.le_trans MM.out.b.size hb.size))
      have z1 : ∀ l : List Int, ∀ y ∈ l, ∀ u ∈ i1 y, u.oneCell' = true := fun l y _ => i1_one y
      have bE : Below W5.heap.size W5 (W5.alloc (.cells #[] 3)) := below_alloc _ _
      have R5 := Lib.hid r5; have EN := Lib.hid eN; have NN := Lib.hid nN; have NB := Lib.hid nB; have B5 := Lib.hid b5; have Z1 := Lib.hid z1; have BE := Lib.hid bE
      clear hW5 eN nN nB b5 x0 e0 e1 e2 e3 e4 e5 z1 bE
      go_upto_region 7 with (at_builtin; refine wpList_append_G (enc := i1) i1_len Try.underlying49 int_info rfl (by decide) (by decide) rfl _ _ (by rfl) W5.heap.size _ 0 [] (by rfl) EN.out _ nl nc needs (by rfl) HNL.out (Z1.out needs) (NN.out _ (below_step B5.out BE.out)) (by omega) BE.out.size ?_; intro v1 w6 o6 g6; obtain ⟨VA, vc, rfl⟩ := own_len o6; have b6 := below_own2 BE.out EN.out g6; rw [List.nil_append, ← iC_G] at o6; have r6 := r5.step b6; clear n3 f3; have n3 := r6.at (i := 3) rfl; have f3 := r6.free 3; have O6 := Lib.hid o6; have B6 := Lib.hid b6; have R6 := Lib.hid r6; clear o6 g6 b6 r6)
      rw [Nat.zero_add] at O6
      try rw [Nat.zero_add]
      have q6 : IRow w6 (.slice VA nl vc) needs := IRow.of (B := W5.heap.size) (by rw [← HNL.out]; exact O6.out)
      obtain ⟨W7, hW7⟩ : ∃ W7, W7 = w6.setCell ⟨wr.heap.size, 3, none⟩ (.slice VA nl vc) := ⟨_, rfl⟩
      rw [← hW7]
      have b7 : Below wr.heap.size wr W7 := by rw [hW7]; exact (below_step B5.out B6.out).setCell (p := ⟨wr.heap.size, 3, none⟩) (Nat.le_refl _) _
      have r7 : Row W7 wr.heap.size 51 #[.int .i64 pub, .int .i64 sf, .int .i64 se, .slice VA nl vc, .slice BA bl bc, .int .i64 gives] := by rw [hW7]; exact R6.out.stored 3 _
      have q7 : IRow W7 (.slice VA nl vc) needs := by rw [hW7]; exact q6.aside R6.out (by decide) 3 _
      have n4' := r7.at (i := 4) rfl
      have f4 := r7.free 4
      have in7 := r7.inside
      have eB := own_e (e := 3) (k := 1) (enc := i1) W7 W7.heap.size (Nat.le_refl _)
      have bE2 : Below W7.heap.size W7 (W7.alloc (.cells #[] 3)) := below_alloc _ _
      have R7 := Lib.hid r7; have B7 := Lib.hid b7; have Q7 := Lib.hid q7; have EB := Lib.hid eB; have BE2 := Lib.hid bE2
      clear hW7 b7 q6 q7 eB bE2 n3 f3 r5 O6 B6 R6 R5 EN BE in5
      go_upto_region 8 with (at_builtin; refine wpList_append_G (enc := i1) i1_len Try.underlying49 int_info rfl (by decide) (by decide) rfl _ _ (by rfl) W7.heap.size _ 0 [] (by rfl) EB.out _ bl bc bars (by rfl) HBL.out (Z1.out bars) (NB.out _ (below_step B7.out BE2.out)) (by omega) BE2.out.size ?_; intro v1 w8 o8 g8; obtain ⟨VB, vbc, rfl⟩ := own_len o8; have b8 := below_own2 BE2.out EB.out g8; rw [List.nil_append, ← iC_G] at o8; have r8 := r7.step b8; clear n4' f4; have n4' := r8.at (i := 4) rfl; have f4 := r8.free 4; have O8 := Lib.hid o8; have B8 := Lib.hid b8; have R8 := Lib.hid r8; clear o8 g8 b8 r8)
      rw [Nat.zero_add] at O8
      try rw [Nat.zero_add]
      have q8 : IRow w8 (.slice VB bl vbc) bars := IRow.of (B := W7.heap.size) (by rw [← HBL.out]; exact O8.out)
      obtain ⟨W9, hW9⟩ : ∃ W9, W9 = w8.setCell ⟨wr.heap.size, 4, none⟩ (.slice VB bl vbc) := ⟨_, rfl⟩
      rw [← hW9]
      have b9 : Below wr.heap.size wr W9 := by rw [hW9]; exact (below_step B7.out B8.out).setCell (p := ⟨wr.heap.size, 4, none⟩) (Nat.le_refl _) _
      have r9 : Row W9 wr.heap.size 51 #[.int .i64 pub, .int .i64 sf, .int .i64 se, .slice VA nl vc, .slice VB bl vbc, .int .i64 gives] := by rw [hW9]; exact R8.out.stored 4 _
      have q9 : IRow W9 (.slice VB bl vbc) bars := by rw [hW9]; exact q8.aside R8.out (by decide) 4 _
      have p9 : IRow W9 (.slice VA nl vc) needs := by rw [hW9]; exact (Q7.out.step B8.out).aside R8.out (by decide) 4 _
      have m9 := MM.out.step b9
      clear hW9 n4' f4 r7 q8 O8 B8 R8 R7 Q7 EB BE2 B7 in7
      obtain ⟨CVA, cvc, rfl⟩ := own_len m9.o.c
      obtain ⟨K, hK⟩ : ∃ K, K = cs.length := ⟨_, rfl⟩
      rw [← hK] at hcl
      have m9' := m9
      rw [← hK] at m9'
      have k0 := m9'.c.at (i := 0) rfl
      obtain ⟨y0, y1, y2, y3, y4, y5⟩ := row6 r9
      have m7 := m9.step (below_alloc W9 (.cells #[.int .i64 pub, .int .i64 sf, .int .i64 se, .slice VA nl vc, .slice VB bl vbc, .int .i64 gives] 51))
      have hp : IRow (W9.alloc (.cells #[.int .i64 pub, .int .i64 sf, .int .i64 se, .slice VA nl vc, .slice VB bl vbc, .int .i64 gives] 51)) (.slice VA nl vc) needs ∧ IRow (W9.alloc (.cells #[.int .i64 pub, .int .i64 sf, .int .i64 se, .slice VA nl vc, .slice VB bl vbc, .int .i64 gives] 51)) (.slice VB bl vbc) bars := ⟨p9.step (below_alloc _ _), q9.step (below_alloc _ _)⟩
      have hnew : ∀ (j : Nat) (u : Value), (clsL ((⟨pub, sf, se, needs, bars, gives⟩, .slice VA nl vc, .slice VB bl vbc) : CV))[j]? = some u → (W9.alloc (.cells #[.int .i64 pub, .int .i64 sf, .int .i64 se, .slice VA nl vc, .slice VB bl vbc, .int .i64 gives] 51)).cell? ((⟨W9.heap.size, 0, none⟩ : Addr).add j) = some u := new_at W9 51 (clsL ((⟨pub, sf, se, needs, bars, gives⟩, .slice VA nl vc, .slice VB bl vbc) : CV))
      have hbase := m7.b.size
      have hoc := m7.o.c
      rw [← hK] at hoc
      have M7 := Lib.hid m7; have HP := Lib.hid hp; have HNEW := Lib.hid hnew; have HOC := Lib.hid hoc; have HK := Lib.hid hK
      clear m9 m9' m7 hp hnew hoc q9 p9 b9 r9 hK
      go_wp2_with (at_builtin; refine wpList_append_own _ rfl _ _ 30 rfl w.heap.size 51 ic (.agg #[.int .i64 0, .int .i64 0, .int .i64 0, .slice none 0 0, .slice none 0 0, .int .i64 0]) 6 80 Try.underlying30 INF.out.1 INF.out.2.1 INF.out.2.2.1 INF.out.2.2.2 rfl (by decide) _ _ _ rfl HOC.out ⟨W9.heap.size, 0, none⟩ 1 1 (clsL ((⟨pub, sf, se, needs, bars, gives⟩, .slice VA nl vc, .slice VB bl vbc) : CV)) rfl rfl HNEW.out (clsL_one _ rfl rfl) (by unfold maxLen; omega) (by omega) hbase ?_; intro v' w10 own8 hg8 _; obtain ⟨g', cap', rfl⟩ := ownsRow_succ own8; rw [HK.out] at own8 hg8 ⊢; obtain ⟨hc8, m8⟩ := Cpy.addC (p := ((⟨pub, sf, se, needs, bars, gives⟩, .slice VA nl vc, .slice VB bl vbc) : CV)) M7.out HP.out hg8 own8; obtain ⟨_, _, _, z3, z4, z5⟩ := hc8.three; have N8 := Lib.hid m8; clear own8 hg8 m8)
      go_roundg (NC - (k + 1))
      case measure => omega
      case rel => exact ⟨k + 1, _, _, by go_num, by omega, N8.out, Lib.hid (by rw [HNX.out, List.map_append, HCS.out]; rfl)⟩
    · obtain rfl : k = NC := by omega
      have hcs : cs.map (·.1) = b.cls := by rw [HCS.out, List.take_of_length_le (by rw [← HNC.out]; exact Nat.le_refl _)]
      have x1 := hM.x.at (i := 1) rfl
      have x2 := hM.x.at (i := 2) rfl
      obtain ⟨CVA, cvc, rfl⟩ := own_len hM.o.c
      have hRR := fun (W : World) (hb : Below w.heap.size w W) => ((HW.out.below hb).2.1.cells).more hb.size
      have hFF := fun (W : World) (hb : Below w.heap.size w W) => ((HW.out.below hb).2.2.cells).more hb.size
      have zr : ∀ y ∈ b.rpl, ∀ u ∈ rplL y, u.oneCell' = true := fun y _ => rplL_one y
      have zf : ∀ y ∈ b.fct, ∀ u ∈ fctL y, u.oneCell' = true := fun y _ => fctL_one y
      have eR := own_e (e := 55) (k := 3) (enc := rplL) wr wr.heap.size (Nat.le_refl _)
      have bE : Below wr.heap.size wr (wr.alloc (.cells #[] 55)) := below_alloc _ _
      have in1 := hM.c.inside
      obtain ⟨_, _, _, g0, g1, g2⟩ := hM.c.three
      have in0 := hM.x.inside
      have MM := Lib.hid hM; have HRR := Lib.hid hRR; have HFF := Lib.hid hFF; have ZR := Lib.hid zr; have ZF := Lib.hid zf; have ER := Lib.hid eR; have BE := Lib.hid bE; have HCM := Lib.hid hcs
      clear hM hRR hFF zr zf eR bE hcs HCS hk hlt
      go_upto_region 10 with (at_builtin; refine wpList_append_G (enc := rplL) rplL_len Try.underlying31 rpl_info rfl (by decide) (by decide) rfl _ _ (by rfl) wr.heap.size _ 0 [] (by rfl) ER.out _ NR c2 b.rpl (by rfl) HNR.out ZR.out (HRR.out _ (below_step MM.out.b BE.out)) (by omega) BE.out.size ?_; intro v1 w6 o6 g6; obtain ⟨VA, vc, rfl⟩ := own_len o6; have b6 := below_own2 BE.out ER.out g6; rw [List.nil_append] at o6; clear g0 g1 g2 x1 x2; have m6 := MM.out.step b6; obtain ⟨_, _, _, g0, g1, g2⟩ := m6.c.three; have x2 := m6.x.at (i := 2) rfl; have O6 := Lib.hid o6; have M6 := Lib.hid m6; clear o6 g6 b6 m6)
      rw [Nat.zero_add] at O6
      try rw [Nat.zero_add]
      have O6' : w6.ownsRow w.heap.size 55 3 (.slice VA NR vc) b.rpl.length (flG rplL b.rpl) := by have := own_less O6.out MM.out.b.size; rw [← HNR.out]; exact this
      have m7 := M6.out.putR O6'
      obtain ⟨W7, hW7⟩ : ∃ W7, W7 = w6.setCell ⟨w.heap.size + 1 + 1, 1, none⟩ (.slice VA NR vc) := ⟨_, rfl⟩
      rw [← hW7] at m7 ⊢
      clear hW7 O6' x0 x2 g0 g1 g2 in1 in0 ER BE O6 M6 MM
      have x2 := m7.x.at (i := 2) rfl
      have eF := own_e (e := 57) (k := 6) (enc := fctL) W7 W7.heap.size (Nat.le_refl _)
      have bE : Below W7.heap.size W7 (W7.alloc (.cells #[] 57)) := below_alloc _ _
      have in1 := m7.c.inside
      have in0 := m7.x.inside
      obtain ⟨_, _, _, g0, g1, g2⟩ := m7.c.three
      have MM := Lib.hid m7; have EF := Lib.hid eF; have BE := Lib.hid bE
      clear m7 eF bE
      go_upto_region 11 with (at_builtin; refine wpList_append_G (enc := fctL) fctL_len Try.underlying32 fct_info rfl (by decide) (by decide) rfl _ _ (by rfl) W7.heap.size _ 0 [] (by rfl) EF.out _ NF c3 b.fct (by rfl) HNF.out ZF.out (HFF.out _ (below_step MM.out.b BE.out)) (by omega) BE.out.size ?_; intro v1 w8 o6 g6; obtain ⟨VF, vfc, rfl⟩ := own_len o6; have b6 := below_own2 BE.out EF.out g6; rw [List.nil_append] at o6; clear g0 g1 g2 x2; have m6 := MM.out.step b6; obtain ⟨_, _, _, g0, g1, g2⟩ := m6.c.three; have O6 := Lib.hid o6; have M6 := Lib.hid m6; clear o6 g6 b6 m6)
      rw [Nat.zero_add] at O6
      try rw [Nat.zero_add]
      have O6' : w8.ownsRow w.heap.size 57 6 (.slice VF NF vfc) b.fct.length (flG fctL b.fct) := by have := own_less O6.out MM.out.b.size; rw [← HNF.out]; exact this
      have m9 := M6.out.putF O6'
      obtain ⟨W9, hW9⟩ : ∃ W9, W9 = w8.setCell ⟨w.heap.size + 1 + 1, 2, none⟩ (.slice VF NF vfc) := ⟨_, rfl⟩
      rw [← hW9] at m9 ⊢
      clear hW9 O6' g0 g1 g2 in1 in0 EF BE O6 M6 MM
      obtain ⟨r0, r1, r2, f0, f1, f2⟩ := m9.r.three
      obtain ⟨k0, k1, k2, _, _, _⟩ := m9.c.three
      have MM := Lib.hid m9
      clear m9
      go_wp2
      refine bodyPost_ret (res_bk rfl rfl (((MM.out.r.stored 0 _).stored 1 _).stored 2 _)) rfl ?_
      refine ⟨_, _, _, cs, rfl, ?_, HCM.out, (((MM.out.b.setCell (p := ⟨w.heap.size + 1, 0, none⟩) (Nat.le_succ _) _).setCell (p := ⟨w.heap.size + 1, 1, none⟩) (Nat.le_succ _) _).setCell (p := ⟨w.heap.size + 1, 2, none⟩) (Nat.le_succ _) _)⟩
      have o1 := MM.out.o.aside MM.out.r (by decide) 0 (.slice CVA cs.length cvc)
      have o2 := o1.aside (MM.out.r.stored 0 _) (by decide) 1 (.slice VA NR vc)
      exact o2.aside ((MM.out.r.stored 0 _).stored 1 _) (by decide) 2 (.slice VF NF vfc)
end Go.Proofs.Ytiglkecmamnphaa
