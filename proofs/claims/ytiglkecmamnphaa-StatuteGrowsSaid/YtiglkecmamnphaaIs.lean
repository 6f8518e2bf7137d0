/- fulfilled, excluded: by what a function says is shown. -/
import Derived.Test.YtiglkecmamnphaaLk
namespace Go.Proofs.Ytiglkecmamnphaa
open Go.RowKit Go.Sort Go.Lib

theorem grown_below {W X : World} (h : Below W.heap.size W X) (r : Option Nat) : W.grownBy X r := ⟨h.os, h.tape, h.output, h.size, fun k hk _ => h.block k hk⟩
theorem below_grown {W X : World} (h : W.grownBy X none) : Below W.heap.size W X := ⟨h.os, h.tape, h.output, h.size, fun k hk => h.block k hk (by simp)⟩
theorem grown_refl (W : World) (r : Option Nat) : W.grownBy W r := ⟨rfl, rfl, rfl, Nat.le_refl _, fun _ _ _ => rfl⟩
theorem grown_next {w X Y : World} {r : Option Nat} (h : w.grownBy X r) (k : X.grownBy Y r) : w.grownBy Y r := grown_trans h k fun _ e => .inl e
theorem Nums.kept {W X : World} {A : Option Addr} {l : List Int} {r : Option Nat} (h : Nums W W.heap.size A l) (hg : W.grownBy X r) (hc : ∀ g, r = some g → ∀ o, W.cell? ⟨g, o, none⟩ = none) : Nums X X.heap.size A l := by
  rcases h with h | ⟨b, o, hA, hB, hk⟩
  · exact .inl h
  · refine .inr ⟨b, o, hA, Nat.lt_of_lt_of_le hB hg.size, fun i x hx => ?_⟩
    have h1 := hk i x hx
    have hne : some b ≠ r := fun e => by
      have := hc b e.symm (o + i)
      rw [h1] at this
      cases this
    exact (World.cell?_of_block (hg.block b hB hne)).trans h1
/-- A function value that says what is shown; what it does to memory is told by a state. -/
structure IsFn (σ : Type) (At : σ → World → Prop) (Le : σ → σ → Prop) (Yes No : σ → Int → Bool → Prop) (st : Option Nat) (D : Int → Prop) (f : Nat) (cb : Array Value) : Prop where
  enters : ∀ args W, (callFunc f args).run Try.prog W = .ok (.enter f args) W
  le_refl : ∀ s, Le s s
  le_trans : ∀ s t u, Le s t → Le t u → Le s u
  yes_mono : ∀ s t n h, Le s t → Yes s n h → Yes t n h
  no_mono : ∀ s t n h, Le s t → No s n h → No t n h
  at_step : ∀ s W X, At s W → Below W.heap.size W X → At s X
  at_lt : ∀ s W, At s W → ∀ g, st = some g → g < W.heap.size ∧ ∀ o, W.cell? ⟨g, o, none⟩ = none
  call : ∀ s W n h, D n → At s W → Calls Try.prog f (#[.int .i64 n, .bool h] ++ cb) W fun e w' => ∃ b t, e = .returned (.bool b) ∧ Le s t ∧ At t w' ∧ (b = true → Yes t n h) ∧ (b = false → No t n h) ∧ W.grownBy w' st
section
variable {σ : Type} {At : σ → World → Prop} {Le : σ → σ → Prop} {Yes No : σ → Int → Bool → Prop} {st : Option Nat} {D : Int → Prop} {f : Nat} {cb : Array Value}
/-- The box of the function value is kept. -/
theorem IsFn.box (H : IsFn σ At Le Yes No st D f cb) {s : σ} {W X : World} {g : Nat} {v : Value} (ha : At s W) (h : W.cell? ⟨g, 0, none⟩ = some v) (hg : W.grownBy X st) : X.cell? ⟨g, 0, none⟩ = some v := by
  have hne : some g ≠ st := fun e => by
    have := (H.at_lt s W ha g e.symm).2 0
    rw [h] at this
    cases this
  exact (World.cell?_of_block (hg.block g (World.block_lt_of_cell? _ _ h) hne)).trans h
set_option maxRecDepth 100000 in
set_option maxHeartbeats 4000000 in
theorem fulfilled1_any (H : IsFn σ At Le Yes No st D f cb) (n : Int) (hn : D n) (s : σ) (W : World) (ha : At s W) (g : Nat) (hg : W.cell? ⟨g, 0, none⟩ = some (.func (.func f) #[] cb)) :
    Calls Try.prog 75 #[.int .i64 n, .pointer (some ⟨g, 0, none⟩)] W fun e w' => ∃ b t, e = .returned (.bool (!b)) ∧ Le s t ∧ At t w' ∧ (b = true → Yes t n true) ∧ (b = false → No t n true) ∧ W.grownBy w' st := by
  have he := H.enters
  have hc := H.call s W n true hn ha
  have HC := Lib.hid hc
  clear hc ha H hn
  go_enter Try.func75, Try.ntmps75
  go_wp2_with (first | (go_at_fn f; (refine HC.out.mono ?_); rintro e w2 ⟨b, t, rfl, hh⟩; have HH := Lib.hid hh; clear hh) | fail)
  go_ret
  exact ⟨b, t, rfl, HH.out⟩
set_option maxRecDepth 100000 in
set_option maxHeartbeats 4000000 in
theorem fulfilled2_any (H : IsFn σ At Le Yes No st D f cb) (n : Int) (hn : D n) (s : σ) (W : World) (ha : At s W) (g : Nat) (hg : W.cell? ⟨g, 0, none⟩ = some (.func (.func f) #[] cb)) :
    Calls Try.prog 76 #[.int .i64 n, .pointer (some ⟨g, 0, none⟩)] W fun e w' => ∃ b t, e = .returned (.bool (!b)) ∧ Le s t ∧ At t w' ∧ (b = true → Yes t n false) ∧ (b = false → No t n false) ∧ W.grownBy w' st := by
  have he := H.enters
  have hc := H.call s W n false hn ha
  have HC := Lib.hid hc
  clear hc ha H hn
  go_enter Try.func76, Try.ntmps76
  go_wp2_with (first | (go_at_fn f; (refine HC.out.mono ?_); rintro e w2 ⟨b, t, rfl, hh⟩; have HH := Lib.hid hh; clear hh) | fail)
  go_ret
  exact ⟨b, t, rfl, HH.out⟩
set_option maxRecDepth 100000 in
set_option maxHeartbeats 4000000 in
theorem excluded1_any (H : IsFn σ At Le Yes No st D f cb) (n : Int) (hn : D n) (s : σ) (W : World) (ha : At s W) (g : Nat) (hg : W.cell? ⟨g, 0, none⟩ = some (.func (.func f) #[] cb)) :
    Calls Try.prog 79 #[.int .i64 n, .pointer (some ⟨g, 0, none⟩)] W fun e w' => ∃ b t, e = .returned (.bool (b)) ∧ Le s t ∧ At t w' ∧ (b = true → Yes t n false) ∧ (b = false → No t n false) ∧ W.grownBy w' st := by
  have he := H.enters
  have hc := H.call s W n false hn ha
  have HC := Lib.hid hc
  clear hc ha H hn
  go_enter Try.func79, Try.ntmps79
  go_wp2_with (first | (go_at_fn f; (refine HC.out.mono ?_); rintro e w2 ⟨b, t, rfl, hh⟩; have HH := Lib.hid hh; clear hh) | fail)
  go_ret
  exact ⟨b, t, rfl, HH.out⟩
set_option maxRecDepth 100000 in
set_option maxHeartbeats 4000000 in
theorem excluded2_any (H : IsFn σ At Le Yes No st D f cb) (n : Int) (hn : D n) (s : σ) (W : World) (ha : At s W) (g : Nat) (hg : W.cell? ⟨g, 0, none⟩ = some (.func (.func f) #[] cb)) :
    Calls Try.prog 80 #[.int .i64 n, .pointer (some ⟨g, 0, none⟩)] W fun e w' => ∃ b t, e = .returned (.bool (b)) ∧ Le s t ∧ At t w' ∧ (b = true → Yes t n true) ∧ (b = false → No t n true) ∧ W.grownBy w' st := by
  have he := H.enters
  have hc := H.call s W n true hn ha
  have HC := Lib.hid hc
  clear hc ha H hn
  go_enter Try.func80, Try.ntmps80
  go_wp2_with (first | (go_at_fn f; (refine HC.out.mono ?_); rintro e w2 ⟨b, t, rfl, hh⟩; have HH := Lib.hid hh; clear hh) | fail)
  go_ret
  exact ⟨b, t, rfl, HH.out⟩
/-- All of a list, or one of it that is otherwise. -/
theorem con_f1 (H : IsFn σ At Le Yes No st D f cb) (l : List Int) (A : Option Addr) (c : Nat) (hn : l.length ≤ Big) (hD : ∀ n ∈ l, D n) (s : σ) (W : World) (ha : At s W) (hl : Nums W W.heap.size A l) (g : Nat) (hg : W.cell? ⟨g, 0, none⟩ = some (.func (.func f) #[] cb)) :
    Calls Try.prog 69 #[.slice A l.length c, .func (.func 75) #[] #[.pointer (some ⟨g, 0, none⟩)]] W fun e w' => ∃ b t, e = .returned (.bool b) ∧ Le s t ∧ At t w' ∧ (b = true → ∃ n ∈ l, No t n true) ∧ (b = false → ∀ n ∈ l, Yes t n true) ∧ W.grownBy w' st := by
  have h := conI l A c 75 #[.pointer (some ⟨g, 0, none⟩)] (enters_of Try.func75 (by kernel_rfl) rfl) hn
    (fun i X => ∃ t, Le s t ∧ At t X ∧ W.grownBy X st ∧ ∀ n ∈ l.take i, Yes t n true) (fun X => ∃ t, Le s t ∧ At t X ∧ W.grownBy X st ∧ ∃ n ∈ l, No t n true) W
    (fun i X ⟨t, _, _, hX, _⟩ => hl.kept hX fun g' e => (H.at_lt s W ha g' e).2) ⟨s, H.le_refl s, ha, grown_refl W st, fun n hn => by simp at hn⟩
    (fun i x X hx ⟨t, h1, h2, h3, h4⟩ => (fulfilled1_any H x (hD x (List.mem_of_getElem? hx)) t X h2 g (H.box ha hg h3)).mono fun e w' ⟨b, u, he, k1, k2, k3, k4, k5⟩ => by
      refine ⟨_, he, fun hb => ⟨u, H.le_trans _ _ _ h1 k1, k2, grown_next h3 k5, x, List.mem_of_getElem? hx, k4 (by simpa using hb)⟩, fun hb => ⟨u, H.le_trans _ _ _ h1 k1, k2, grown_next h3 k5, fun n hn => ?_⟩⟩
      rw [List.take_add_one, hx] at hn
      rcases List.mem_append.1 hn with hn | hn
      · exact H.yes_mono _ _ _ _ k1 (h4 n hn)
      · have : n = x := by simpa using hn
        subst this
        exact k3 (by simpa using hb))
  refine h.mono fun e w' ⟨b, he, h1, h2⟩ => ?_
  cases b
  · obtain ⟨t, k1, k2, k3, k4⟩ := h2 rfl
    exact ⟨false, t, he, k1, k2, (fun e => by cases e), (fun _ n hn => k4 n (by rwa [List.take_of_length_le (Nat.le_refl _)])), k3⟩
  · obtain ⟨t, k1, k2, k3, k4⟩ := h1 rfl
    exact ⟨true, t, he, k1, k2, (fun _ => k4), (fun e => by cases e), k3⟩
/-- All of a list, or one of it that is otherwise. -/
theorem con_f2 (H : IsFn σ At Le Yes No st D f cb) (l : List Int) (A : Option Addr) (c : Nat) (hn : l.length ≤ Big) (hD : ∀ n ∈ l, D n) (s : σ) (W : World) (ha : At s W) (hl : Nums W W.heap.size A l) (g : Nat) (hg : W.cell? ⟨g, 0, none⟩ = some (.func (.func f) #[] cb)) :
    Calls Try.prog 69 #[.slice A l.length c, .func (.func 76) #[] #[.pointer (some ⟨g, 0, none⟩)]] W fun e w' => ∃ b t, e = .returned (.bool b) ∧ Le s t ∧ At t w' ∧ (b = true → ∃ n ∈ l, No t n false) ∧ (b = false → ∀ n ∈ l, Yes t n false) ∧ W.grownBy w' st := by
  have h := conI l A c 76 #[.pointer (some ⟨g, 0, none⟩)] (enters_of Try.func76 (by kernel_rfl) rfl) hn
    (fun i X => ∃ t, Le s t ∧ At t X ∧ W.grownBy X st ∧ ∀ n ∈ l.take i, Yes t n false) (fun X => ∃ t, Le s t ∧ At t X ∧ W.grownBy X st ∧ ∃ n ∈ l, No t n false) W
    (fun i X ⟨t, _, _, hX, _⟩ => hl.kept hX fun g' e => (H.at_lt s W ha g' e).2) ⟨s, H.le_refl s, ha, grown_refl W st, fun n hn => by simp at hn⟩
    (fun i x X hx ⟨t, h1, h2, h3, h4⟩ => (fulfilled2_any H x (hD x (List.mem_of_getElem? hx)) t X h2 g (H.box ha hg h3)).mono fun e w' ⟨b, u, he, k1, k2, k3, k4, k5⟩ => by
      refine ⟨_, he, fun hb => ⟨u, H.le_trans _ _ _ h1 k1, k2, grown_next h3 k5, x, List.mem_of_getElem? hx, k4 (by simpa using hb)⟩, fun hb => ⟨u, H.le_trans _ _ _ h1 k1, k2, grown_next h3 k5, fun n hn => ?_⟩⟩
      rw [List.take_add_one, hx] at hn
      rcases List.mem_append.1 hn with hn | hn
      · exact H.yes_mono _ _ _ _ k1 (h4 n hn)
      · have : n = x := by simpa using hn
        subst this
        exact k3 (by simpa using hb))
  refine h.mono fun e w' ⟨b, he, h1, h2⟩ => ?_
  cases b
  · obtain ⟨t, k1, k2, k3, k4⟩ := h2 rfl
    exact ⟨false, t, he, k1, k2, (fun e => by cases e), (fun _ n hn => k4 n (by rwa [List.take_of_length_le (Nat.le_refl _)])), k3⟩
  · obtain ⟨t, k1, k2, k3, k4⟩ := h1 rfl
    exact ⟨true, t, he, k1, k2, (fun _ => k4), (fun e => by cases e), k3⟩
/-- All of a list, or one of it that is otherwise. -/
theorem con_e1 (H : IsFn σ At Le Yes No st D f cb) (l : List Int) (A : Option Addr) (c : Nat) (hn : l.length ≤ Big) (hD : ∀ n ∈ l, D n) (s : σ) (W : World) (ha : At s W) (hl : Nums W W.heap.size A l) (g : Nat) (hg : W.cell? ⟨g, 0, none⟩ = some (.func (.func f) #[] cb)) :
    Calls Try.prog 69 #[.slice A l.length c, .func (.func 79) #[] #[.pointer (some ⟨g, 0, none⟩)]] W fun e w' => ∃ b t, e = .returned (.bool b) ∧ Le s t ∧ At t w' ∧ (b = true → ∃ n ∈ l, Yes t n false) ∧ (b = false → ∀ n ∈ l, No t n false) ∧ W.grownBy w' st := by
  have h := conI l A c 79 #[.pointer (some ⟨g, 0, none⟩)] (enters_of Try.func79 (by kernel_rfl) rfl) hn
    (fun i X => ∃ t, Le s t ∧ At t X ∧ W.grownBy X st ∧ ∀ n ∈ l.take i, No t n false) (fun X => ∃ t, Le s t ∧ At t X ∧ W.grownBy X st ∧ ∃ n ∈ l, Yes t n false) W
    (fun i X ⟨t, _, _, hX, _⟩ => hl.kept hX fun g' e => (H.at_lt s W ha g' e).2) ⟨s, H.le_refl s, ha, grown_refl W st, fun n hn => by simp at hn⟩
    (fun i x X hx ⟨t, h1, h2, h3, h4⟩ => (excluded1_any H x (hD x (List.mem_of_getElem? hx)) t X h2 g (H.box ha hg h3)).mono fun e w' ⟨b, u, he, k1, k2, k3, k4, k5⟩ => by
      refine ⟨_, he, fun hb => ⟨u, H.le_trans _ _ _ h1 k1, k2, grown_next h3 k5, x, List.mem_of_getElem? hx, k3 hb⟩, fun hb => ⟨u, H.le_trans _ _ _ h1 k1, k2, grown_next h3 k5, fun n hn => ?_⟩⟩
      rw [List.take_add_one, hx] at hn
      rcases List.mem_append.1 hn with hn | hn
      · exact H.no_mono _ _ _ _ k1 (h4 n hn)
      · have : n = x := by simpa using hn
        subst this
        exact k4 hb)
  refine h.mono fun e w' ⟨b, he, h1, h2⟩ => ?_
  cases b
  · obtain ⟨t, k1, k2, k3, k4⟩ := h2 rfl
    exact ⟨false, t, he, k1, k2, (fun e => by cases e), (fun _ n hn => k4 n (by rwa [List.take_of_length_le (Nat.le_refl _)])), k3⟩
  · obtain ⟨t, k1, k2, k3, k4⟩ := h1 rfl
    exact ⟨true, t, he, k1, k2, (fun _ => k4), (fun e => by cases e), k3⟩
/-- All of a list, or one of it that is otherwise. -/
theorem con_e2 (H : IsFn σ At Le Yes No st D f cb) (l : List Int) (A : Option Addr) (c : Nat) (hn : l.length ≤ Big) (hD : ∀ n ∈ l, D n) (s : σ) (W : World) (ha : At s W) (hl : Nums W W.heap.size A l) (g : Nat) (hg : W.cell? ⟨g, 0, none⟩ = some (.func (.func f) #[] cb)) :
    Calls Try.prog 69 #[.slice A l.length c, .func (.func 80) #[] #[.pointer (some ⟨g, 0, none⟩)]] W fun e w' => ∃ b t, e = .returned (.bool b) ∧ Le s t ∧ At t w' ∧ (b = true → ∃ n ∈ l, Yes t n true) ∧ (b = false → ∀ n ∈ l, No t n true) ∧ W.grownBy w' st := by
  have h := conI l A c 80 #[.pointer (some ⟨g, 0, none⟩)] (enters_of Try.func80 (by kernel_rfl) rfl) hn
    (fun i X => ∃ t, Le s t ∧ At t X ∧ W.grownBy X st ∧ ∀ n ∈ l.take i, No t n true) (fun X => ∃ t, Le s t ∧ At t X ∧ W.grownBy X st ∧ ∃ n ∈ l, Yes t n true) W
    (fun i X ⟨t, _, _, hX, _⟩ => hl.kept hX fun g' e => (H.at_lt s W ha g' e).2) ⟨s, H.le_refl s, ha, grown_refl W st, fun n hn => by simp at hn⟩
    (fun i x X hx ⟨t, h1, h2, h3, h4⟩ => (excluded2_any H x (hD x (List.mem_of_getElem? hx)) t X h2 g (H.box ha hg h3)).mono fun e w' ⟨b, u, he, k1, k2, k3, k4, k5⟩ => by
      refine ⟨_, he, fun hb => ⟨u, H.le_trans _ _ _ h1 k1, k2, grown_next h3 k5, x, List.mem_of_getElem? hx, k3 hb⟩, fun hb => ⟨u, H.le_trans _ _ _ h1 k1, k2, grown_next h3 k5, fun n hn => ?_⟩⟩
      rw [List.take_add_one, hx] at hn
      rcases List.mem_append.1 hn with hn | hn
      · exact H.no_mono _ _ _ _ k1 (h4 n hn)
      · have : n = x := by simpa using hn
        subst this
        exact k4 hb)
  refine h.mono fun e w' ⟨b, he, h1, h2⟩ => ?_
  cases b
  · obtain ⟨t, k1, k2, k3, k4⟩ := h2 rfl
    exact ⟨false, t, he, k1, k2, (fun e => by cases e), (fun _ n hn => k4 n (by rwa [List.take_of_length_le (Nat.le_refl _)])), k3⟩
  · obtain ⟨t, k1, k2, k3, k4⟩ := h1 rfl
    exact ⟨true, t, he, k1, k2, (fun _ => k4), (fun e => by cases e), k3⟩
set_option maxRecDepth 100000 in
set_option maxHeartbeats 8000000 in
theorem fulfilled_any (H : IsFn σ At Le Yes No st D f cb) (x : Cls) (NA BA : Option Addr) (nc bc : Nat) (h9 : x.needs.length ≤ Big) (b9 : x.bars.length ≤ Big) (hD : (∀ n ∈ x.needs, D n) ∧ ∀ n ∈ x.bars, D n) (s : σ) (w : World) (ha : At s w) (hN : Nums w w.heap.size NA x.needs) (hB : Nums w w.heap.size BA x.bars) :
    Calls Try.prog 59 #[.agg (clsC x (.slice NA x.needs.length nc) (.slice BA x.bars.length bc)), .func (.func f) #[] cb] w fun e w' => ∃ b t, e = .returned (.bool b) ∧ Le s t ∧ At t w' ∧ (b = true → (∀ n ∈ x.needs, Yes t n true) ∧ ∀ n ∈ x.bars, Yes t n false) ∧ (b = false → (∃ n ∈ x.needs, No t n true) ∨ ∃ n ∈ x.bars, No t n false) ∧ w.grownBy w' st := by
  obtain ⟨xp, xf, xt, xn, xb, xg⟩ := x
  unfold clsC
  dsimp only at *
  obtain ⟨W1, hW1⟩ : ∃ W1, W1 = (w.alloc (.cells #[.int .i64 xp, .int .i64 xf, .int .i64 xt, .slice NA xn.length nc, .slice BA xb.length bc, .int .i64 xg] 51)).alloc (.cells #[.func (.func f) #[] cb] 108) := ⟨_, rfl⟩
  have hb1 : Below w.heap.size w W1 := by rw [hW1]; exact keep_alloc (below_alloc _ _) _
  have r1 : Row W1 w.heap.size 51 #[.int .i64 xp, .int .i64 xf, .int .i64 xt, .slice NA xn.length nc, .slice BA xb.length bc, .int .i64 xg] := by rw [hW1]; exact (Row.made w _ _).later _
  have r2 : Row W1 (w.heap.size + 1) 108 #[.func (.func f) #[] cb] := by rw [hW1]; exact Row.made_at _ _ _ (by simp)
  have ha1 := H.at_step s w W1 ha hb1
  have hne : some w.heap.size ≠ st := fun e => by have := (H.at_lt s w ha _ e.symm).1; omega
  have cA := con_f1 H xn NA nc h9 hD.1 s W1 ha1 (hN.deep hb1) (w.heap.size + 1) (r2.at rfl)
  have cB := fun (t : σ) (X : World) (hX : W1.grownBy X st) (hat : At t X) => con_f2 H xb BA bc b9 hD.2 t X hat ((hB.deep hb1).kept hX fun g e => (H.at_lt s W1 ha1 g e).2) (w.heap.size + 1) (H.box ha1 (r2.at rfl) hX)
  have hrow := fun (X : World) (hX : W1.grownBy X st) => r1.grown hX hne
  have hg1 := grown_below hb1 st
  obtain ⟨k0, k1, k2, k3, k4, k5⟩ := box6 r1
  have k6 := r2.at (i := 0) rfl
  have CA := Lib.hid cA; have CB := Lib.hid cB; have HR := Lib.hid hrow; have HG := Lib.hid hg1
  clear cA cB hrow hg1 r1 r2 ha ha1 hN hB hb1 hD
  generalize xn.length = ln at *
  generalize xb.length = lb at *
  go_enter Try.func59, Try.ntmps59
  go_upto_region 1 with (fail)
  rw [← hW1]
  clear hW1
  go_wp2_with (first
    | (go_at_call 69; (first
        | ((with_reducible refine CA.out.mono ?_); rintro e w2 ⟨b1, t1, rfl, h1, h2, h3, h4, h5⟩; obtain ⟨z0, z1, z2, z3, z4, z5⟩ := box6 (HR.out w2 h5); have Q1 := Lib.hid h1; have Q3 := Lib.hid h3; have Q4 := Lib.hid h4; have Q5 := Lib.hid h5; have Q2 := Lib.hid h2; clear h1 h2 h3 h4 h5 k0 k1 k2 k3 k4 k5 CA; cases b1)
        | ((with_reducible refine (CB.out t1 w2 Q5.out Q2.out).mono ?_); rintro e w3 ⟨b2, t2, rfl, hh⟩; have Q6 := Lib.hid hh; clear hh)))
    | fail)
  · go_ret
    obtain ⟨p1, p2, p3, p4, p5⟩ := Q6.out
    refine ⟨!b2, t2, by simp, H.le_trans _ _ _ Q1.out p1, p2, fun hb => ⟨fun n hn => H.yes_mono _ _ _ _ p1 (Q4.out (by trivial) n hn), p4 (by simpa using hb)⟩, fun hb => .inr (p3 (by simpa using hb)), grown_next HG.out (grown_next Q5.out p5)⟩
  · go_ret
    exact ⟨false, t1, by simp, Q1.out, Q2.out, (fun hb => by cases hb), fun _ => .inl (Q3.out (by trivial)), grown_next HG.out Q5.out⟩

set_option maxRecDepth 100000 in
set_option maxHeartbeats 8000000 in
theorem excluded_any (H : IsFn σ At Le Yes No st D f cb) (x : Cls) (NA BA : Option Addr) (nc bc : Nat) (h9 : x.needs.length ≤ Big) (b9 : x.bars.length ≤ Big) (hD : (∀ n ∈ x.needs, D n) ∧ ∀ n ∈ x.bars, D n) (s : σ) (w : World) (ha : At s w) (hN : Nums w w.heap.size NA x.needs) (hB : Nums w w.heap.size BA x.bars) :
    Calls Try.prog 68 #[.agg (clsC x (.slice NA x.needs.length nc) (.slice BA x.bars.length bc)), .func (.func f) #[] cb] w fun e w' => ∃ b t, e = .returned (.bool b) ∧ Le s t ∧ At t w' ∧ (b = true → (∃ n ∈ x.needs, Yes t n false) ∨ ∃ n ∈ x.bars, Yes t n true) ∧ (b = false → (∀ n ∈ x.needs, No t n false) ∧ ∀ n ∈ x.bars, No t n true) ∧ w.grownBy w' st := by
  obtain ⟨xp, xf, xt, xn, xb, xg⟩ := x
  unfold clsC
  dsimp only at *
  obtain ⟨W1, hW1⟩ : ∃ W1, W1 = (w.alloc (.cells #[.int .i64 xp, .int .i64 xf, .int .i64 xt, .slice NA xn.length nc, .slice BA xb.length bc, .int .i64 xg] 51)).alloc (.cells #[.func (.func f) #[] cb] 108) := ⟨_, rfl⟩
  have hb1 : Below w.heap.size w W1 := by rw [hW1]; exact keep_alloc (below_alloc _ _) _
  have r1 : Row W1 w.heap.size 51 #[.int .i64 xp, .int .i64 xf, .int .i64 xt, .slice NA xn.length nc, .slice BA xb.length bc, .int .i64 xg] := by rw [hW1]; exact (Row.made w _ _).later _
  have r2 : Row W1 (w.heap.size + 1) 108 #[.func (.func f) #[] cb] := by rw [hW1]; exact Row.made_at _ _ _ (by simp)
  have ha1 := H.at_step s w W1 ha hb1
  have hne : some w.heap.size ≠ st := fun e => by have := (H.at_lt s w ha _ e.symm).1; omega
  have cA := con_e1 H xn NA nc h9 hD.1 s W1 ha1 (hN.deep hb1) (w.heap.size + 1) (r2.at rfl)
  have cB := fun (t : σ) (X : World) (hX : W1.grownBy X st) (hat : At t X) => con_e2 H xb BA bc b9 hD.2 t X hat ((hB.deep hb1).kept hX fun g e => (H.at_lt s W1 ha1 g e).2) (w.heap.size + 1) (H.box ha1 (r2.at rfl) hX)
  have hrow := fun (X : World) (hX : W1.grownBy X st) => r1.grown hX hne
  have hg1 := grown_below hb1 st
  obtain ⟨k0, k1, k2, k3, k4, k5⟩ := box6 r1
  have k6 := r2.at (i := 0) rfl
  have CA := Lib.hid cA; have CB := Lib.hid cB; have HR := Lib.hid hrow; have HG := Lib.hid hg1
  clear cA cB hrow hg1 r1 r2 ha ha1 hN hB hb1 hD
  generalize xn.length = ln at *
  generalize xb.length = lb at *
  go_enter Try.func68, Try.ntmps68
  go_upto_region 1 with (fail)
  rw [← hW1]
  clear hW1
  go_wp2_with (first
    | (go_at_call 69; (first
        | ((with_reducible refine CA.out.mono ?_); rintro e w2 ⟨b1, t1, rfl, h1, h2, h3, h4, h5⟩; obtain ⟨z0, z1, z2, z3, z4, z5⟩ := box6 (HR.out w2 h5); have Q1 := Lib.hid h1; have Q3 := Lib.hid h3; have Q4 := Lib.hid h4; have Q5 := Lib.hid h5; have Q2 := Lib.hid h2; clear h1 h2 h3 h4 h5 k0 k1 k2 k3 k4 k5 CA; cases b1)
        | ((with_reducible refine (CB.out t1 w2 Q5.out Q2.out).mono ?_); rintro e w3 ⟨b2, t2, rfl, hh⟩; have Q6 := Lib.hid hh; clear hh)))
    | fail)
  · go_ret
    obtain ⟨p1, p2, p3, p4, p5⟩ := Q6.out
    refine ⟨b2, t2, by simp, H.le_trans _ _ _ Q1.out p1, p2, fun hb => .inr (p3 hb), fun hb => ⟨fun n hn => H.no_mono _ _ _ _ p1 (Q4.out (by trivial) n hn), p4 hb⟩, grown_next HG.out (grown_next Q5.out p5)⟩
  · go_ret
    exact ⟨true, t1, by simp, Q1.out, Q2.out, fun _ => .inl (Q3.out (by trivial)), (fun hb => by cases hb), grown_next HG.out Q5.out⟩

end
end Go.Proofs.Ytiglkecmamnphaa
