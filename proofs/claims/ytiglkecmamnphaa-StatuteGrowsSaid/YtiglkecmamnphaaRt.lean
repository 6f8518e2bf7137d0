/- byFact, byClause, notSo; what a list shows. -/
import Derived.Test.YtiglkecmamnphaaIs
namespace Go.Proofs.Ytiglkecmamnphaa
open Go.RowKit Go.Sort Go.Lib

theorem load_fd {w : World} {g : Nat} {t : TypeId} {a b c d : Value} (h : Row w g t #[a, b, c, d]) : (loadVar 63 ⟨g, 0, none⟩).run Try.prog w = .ok (.agg #[a, b, c, d]) w := by
  obtain ⟨k0, k1, k2, k3⟩ := box4 h
  simp [loadVar, go_sem, k0, k1, k2, k3]
theorem res_fd {fn : Func} {p : Tmp} {tmps : Array Value} {w : World} {g : Nat} {t : TypeId} {a b c d : Value} (h : fn.results = #[.cell p 63]) (hp : tmps.getD p undef = .pointer (some ⟨g, 0, none⟩)) (hr : Row w g t #[a, b, c, d]) : (results fn tmps).run Try.prog w = .ok (.agg #[a, b, c, d]) w := by
  have hl := load_fd hr
  have ha := asAddr_ptr (w := w) hp
  simp only [results, h]
  simp only [List.size_toArray, List.length_cons, List.length_nil, Nat.reduceAdd, List.mapM_toArray, List.mapM_cons, List.mapM_nil]
  simp [Sem.run_bind, Result.andThen, ha, hl, -Array.getD_eq_getD_getElem?]
set_option maxRecDepth 100000 in
theorem byFact_any (n i : Int) (w : World) : Calls Try.prog 58 #[.int .i64 n, .int .i64 i] w fun e w' => e = .returned (.agg (fdC (n, true, i, -1))) ∧ Below w.heap.size w w' := by
  unfold fdC
  go_enter Try.func58, Try.ntmps58
  go_upto_region 1 with (fail)
  obtain ⟨W1, hW1⟩ : ∃ W1, W1 = w.alloc (.cells #[.int .i64 0, .bool false, .int .i64 0, .int .i64 0] 63) := ⟨_, rfl⟩
  have hb : Below w.heap.size w W1 := by rw [hW1]; exact below_alloc _ _
  have hr : Row W1 w.heap.size 63 #[.int .i64 0, .bool false, .int .i64 0, .int .i64 0] := by rw [hW1]; exact Row.made _ _ _
  rw [← hW1]
  clear hW1
  obtain ⟨k0, k1, k2, k3⟩ := box4 hr
  have f0 := hr.free 0; have f1 := hr.free 1; have f2 := hr.free 2; have f3 := hr.free 3
  have HR := Lib.hid hr; have HB := Lib.hid hb
  clear hr hb
  go_wp2
  refine bodyPost_ret (res_fd rfl rfl (((HR.out.stored 0 _).stored 1 _).stored 2 _ |>.stored 3 _)) rfl ?_
  exact ⟨rfl, (((HB.out.setCell (p := ⟨w.heap.size, 0, none⟩) (Nat.le_refl _) _).setCell (p := ⟨w.heap.size, 1, none⟩) (Nat.le_refl _) _).setCell (p := ⟨w.heap.size, 2, none⟩) (Nat.le_refl _) _).setCell (p := ⟨w.heap.size, 3, none⟩) (Nat.le_refl _) _⟩
set_option maxRecDepth 100000 in
theorem byClause_any (n i : Int) (w : World) : Calls Try.prog 60 #[.int .i64 n, .int .i64 i] w fun e w' => e = .returned (.agg (fdC (n, true, -1, i))) ∧ Below w.heap.size w w' := by
  unfold fdC
  go_enter Try.func60, Try.ntmps60
  go_upto_region 1 with (fail)
  obtain ⟨W1, hW1⟩ : ∃ W1, W1 = w.alloc (.cells #[.int .i64 0, .bool false, .int .i64 0, .int .i64 0] 63) := ⟨_, rfl⟩
  have hb : Below w.heap.size w W1 := by rw [hW1]; exact below_alloc _ _
  have hr : Row W1 w.heap.size 63 #[.int .i64 0, .bool false, .int .i64 0, .int .i64 0] := by rw [hW1]; exact Row.made _ _ _
  rw [← hW1]
  clear hW1
  obtain ⟨k0, k1, k2, k3⟩ := box4 hr
  have f0 := hr.free 0; have f1 := hr.free 1; have f2 := hr.free 2; have f3 := hr.free 3
  have HR := Lib.hid hr; have HB := Lib.hid hb
  clear hr hb
  go_wp2
  refine bodyPost_ret (res_fd rfl rfl (((HR.out.stored 0 _).stored 1 _).stored 2 _ |>.stored 3 _)) rfl ?_
  exact ⟨rfl, (((HB.out.setCell (p := ⟨w.heap.size, 0, none⟩) (Nat.le_refl _) _).setCell (p := ⟨w.heap.size, 1, none⟩) (Nat.le_refl _) _).setCell (p := ⟨w.heap.size, 2, none⟩) (Nat.le_refl _) _).setCell (p := ⟨w.heap.size, 3, none⟩) (Nat.le_refl _) _⟩
set_option maxRecDepth 100000 in
theorem notSo_any (n : Int) (w : World) : Calls Try.prog 61 #[.int .i64 n] w fun e w' => e = .returned (.agg (fdC (n, false, -1, -1))) ∧ Below w.heap.size w w' := by
  unfold fdC
  go_enter Try.func61, Try.ntmps61
  go_upto_region 1 with (fail)
  obtain ⟨W1, hW1⟩ : ∃ W1, W1 = w.alloc (.cells #[.int .i64 0, .bool false, .int .i64 0, .int .i64 0] 63) := ⟨_, rfl⟩
  have hb : Below w.heap.size w W1 := by rw [hW1]; exact below_alloc _ _
  have hr : Row W1 w.heap.size 63 #[.int .i64 0, .bool false, .int .i64 0, .int .i64 0] := by rw [hW1]; exact Row.made _ _ _
  rw [← hW1]
  clear hW1
  obtain ⟨k0, k1, k2, k3⟩ := box4 hr
  have f0 := hr.free 0; have f1 := hr.free 1; have f2 := hr.free 2; have f3 := hr.free 3
  have HR := Lib.hid hr; have HB := Lib.hid hb
  clear hr hb
  go_wp2
  refine bodyPost_ret (res_fd rfl rfl (((HR.out.stored 0 _).stored 1 _).stored 2 _ |>.stored 3 _)) rfl ?_
  exact ⟨rfl, (((HB.out.setCell (p := ⟨w.heap.size, 0, none⟩) (Nat.le_refl _) _).setCell (p := ⟨w.heap.size, 1, none⟩) (Nat.le_refl _) _).setCell (p := ⟨w.heap.size, 2, none⟩) (Nat.le_refl _) _).setCell (p := ⟨w.heap.size, 3, none⟩) (Nat.le_refl _) _⟩

set_option maxRecDepth 100000 in
set_option maxHeartbeats 4000000 in
theorem right11_any (x : Fd) (n : Int) (h : Bool) (gn gh : Nat) (W : World) (hn : W.cell? ⟨gn, 0, none⟩ = some (.int .i64 n)) (hh : W.cell? ⟨gh, 0, none⟩ = some (.bool h)) :
    Calls Try.prog 66 #[.agg (fdC x), .pointer (some ⟨gn, 0, none⟩), .pointer (some ⟨gh, 0, none⟩)] W fun e w' => e = .returned (.bool (decide (x.1 = n) && x.2.1 == h)) ∧ Below W.heap.size W w' := by
  obtain ⟨xn, xh, xf, xc⟩ := x
  unfold fdC
  dsimp only
  have d1 : (xn == n) = decide (xn = n) := by by_cases h : xn = n <;> simp [h]
  obtain ⟨W1, hW1⟩ : ∃ W1, W1 = W.alloc (.cells #[.int .i64 xn, .bool xh, .int .i64 xf, .int .i64 xc] 63) := ⟨_, rfl⟩
  have hb1 : Below W.heap.size W W1 := by rw [hW1]; exact below_alloc _ _
  obtain ⟨m0, m1, _, _⟩ := box4 (by rw [hW1]; exact Row.made W _ _ : Row W1 W.heap.size 63 _)
  have k0 : W1.cell? ⟨gn, 0, none⟩ = some (.int .i64 n) := (hb1.cell (p := ⟨gn, 0, none⟩) (World.block_lt_of_cell? _ _ hn)).trans hn
  have k1 : W1.cell? ⟨gh, 0, none⟩ = some (.bool h) := (hb1.cell (p := ⟨gh, 0, none⟩) (World.block_lt_of_cell? _ _ hh)).trans hh
  have K0 := cell_regrown k0; have K1 := cell_regrown k1; have M0 := cell_regrown m0; have M1 := cell_regrown m1
  have HB := Lib.hid hb1
  clear k0 k1 m0 m1 hb1 hn hh
  generalize decide (xn = n) = b1 at *
  cases b1
  · go_enter Try.func66, Try.ntmps66
    go_upto_region 1 with (fail)
    rw [← hW1]
    clear hW1
    refine wp_region_quiet_forced ?_
    repeat (go_big_quiet_step (first | (fail) | fail))
    refine wpQuiet_nil ?_; intro _ hw'; obtain ⟨⟨dq, osq⟩, hw''⟩ := hw'; subst hw''
    go_wp2
    go_ret
    exact ⟨by simp, below_step HB.out (below_regrown _ _ _)⟩
  · go_enter Try.func66, Try.ntmps66
    go_upto_region 1 with (fail)
    rw [← hW1]
    clear hW1
    refine wp_region_quiet_forced ?_
    repeat (go_big_quiet_step (first | (fail) | fail))
    refine wpQuiet_nil ?_; intro _ hw'; obtain ⟨⟨dq, osq⟩, hw''⟩ := hw'; subst hw''
    go_wp2
    go_ret
    exact ⟨by simp, below_step HB.out (below_regrown _ _ _)⟩

/-- The cells of a list of findings. -/
def FdsC (W : World) (A : Option Addr) (l : List Fd) : Prop := ∀ (i : Nat) (x : Fd), l[i]? = some x → ∃ b o : Nat, A = some ⟨b, o, none⟩ ∧ b < W.heap.size ∧ W.cell? ⟨b, o + i * 4, none⟩ = some (.int .i64 x.1) ∧ W.cell? ⟨b, o + i * 4 + 1, none⟩ = some (.bool x.2.1) ∧ W.cell? ⟨b, o + i * 4 + 2, none⟩ = some (.int .i64 x.2.2.1) ∧ W.cell? ⟨b, o + i * 4 + 3, none⟩ = some (.int .i64 x.2.2.2)
theorem FdsC.deep {W X : World} {A : Option Addr} {l : List Fd} (h : FdsC W A l) (hb : Below W.heap.size W X) : FdsC X A l := fun i x hx => by
  obtain ⟨b, o, hA, hbb, e0, e1, e2, e3⟩ := h i x hx
  exact ⟨b, o, hA, Nat.lt_of_lt_of_le hbb hb.size, (hb.cell (p := ⟨b, o + i * 4, none⟩) hbb).trans e0, (hb.cell (p := ⟨b, o + i * 4 + 1, none⟩) hbb).trans e1, (hb.cell (p := ⟨b, o + i * 4 + 2, none⟩) hbb).trans e2, (hb.cell (p := ⟨b, o + i * 4 + 3, none⟩) hbb).trans e3⟩
theorem FdsC.take {W : World} {A : Option Addr} {l : List Fd} (h : FdsC W A l) (k : Nat) : FdsC W A (l.take k) := fun i x hx => h i x (by
  rw [List.getElem?_take] at hx
  split at hx
  · exact hx
  · cases hx)

set_option maxRecDepth 100000 in
set_option maxHeartbeats 4000000 in
theorem right1_any (l : List Fd) (A : Option Addr) (c : Nat) (h9 : l.length ≤ Big) (n : Int) (h : Bool) (gl : Nat) (w : World) (hl : FdsC w A l) (hg : w.cell? ⟨gl, 0, none⟩ = some (.slice A l.length c)) :
    Calls Try.prog 64 #[.int .i64 n, .bool h, .pointer (some ⟨gl, 0, none⟩)] w fun e w' => e = .returned (.bool (isL l n h)) ∧ Below w.heap.size w w' := by
  obtain ⟨W1, hW1⟩ : ∃ W1, W1 = (w.alloc (.cells #[.int .i64 n] 3)).alloc (.cells #[.bool h] 4) := ⟨_, rfl⟩
  have hb1 : Below w.heap.size w W1 := by rw [hW1]; exact keep_alloc (below_alloc _ _) _
  have r1 : Row W1 w.heap.size 3 #[.int .i64 n] := by rw [hW1]; exact (Row.made w _ _).later _
  have r2 : Row W1 (w.heap.size + 1) 4 #[.bool h] := by rw [hW1]; exact Row.made_at _ _ _ (by simp)
  have k0 : W1.cell? ⟨gl, 0, none⟩ = some (.slice A l.length c) := (hb1.cell (p := ⟨gl, 0, none⟩) (World.block_lt_of_cell? _ _ hg)).trans hg
  have hc := conF l A c 66 #[.pointer (some ⟨w.heap.size, 0, none⟩), .pointer (some ⟨w.heap.size + 1, 0, none⟩)] (enters_of Try.func66 (by kernel_rfl) rfl) h9
    (fun k W => Below W1.heap.size W1 W ∧ isL (l.take k) n h = false) (fun W => Below W1.heap.size W1 W ∧ isL l n h = true) W1 (hl.deep hb1) (fun _ _ h => h.1) ⟨Below.refl _ _, by simp [isL]⟩
    (fun k x W hx hJ => (right11_any x n h _ _ W ((r1.step hJ.1).at rfl) ((r2.step hJ.1).at rfl)).mono fun e w' hh => ⟨_, hh.1, fun hb => ⟨below_step hJ.1 hh.2, List.any_eq_true.2 ⟨x, List.mem_of_getElem? hx, hb⟩⟩, fun hb => ⟨below_step hJ.1 hh.2, by rw [List.take_add_one, hx, isL_append, hJ.2]; simp [isL, hb]⟩⟩)
  have he : l.take l.length = l := List.take_of_length_le (Nat.le_refl _)
  rw [he] at hc
  generalize isL l n h = R at *
  generalize l.length = L at *
  have HC := Lib.hid hc; have HB := Lib.hid hb1
  clear hc hb1 r1 r2 hl hg h9 he
  go_enter Try.func64, Try.ntmps64
  go_upto_region 1 with (fail)
  rw [← hW1]
  clear hW1
  go_wp2_with (first | (go_at_call 65; (with_reducible refine HC.out.mono ?_); rintro e w2 ⟨r, rfl, h1, h2⟩; have H1 := Lib.hid h1; have H2 := Lib.hid h2; clear h1 h2) | fail)
  go_ret
  cases r
  · obtain ⟨hb, hf⟩ := H2.out rfl
    exact ⟨by rw [hf]; rfl, below_step HB.out hb⟩
  · obtain ⟨hb, hf⟩ := H1.out rfl
    exact ⟨by rw [hf]; rfl, below_step HB.out hb⟩
/-- The closure of right, as a function that says what is shown. -/
theorem isFn_right (l : List Fd) (A : Option Addr) (c : Nat) (h9 : l.length ≤ Big) (gl : Nat) (w : World) (hl : FdsC w A l) (hg : w.cell? ⟨gl, 0, none⟩ = some (.slice A l.length c)) :
    IsFn Unit (fun _ W => Below w.heap.size w W) (fun _ _ => True) (fun _ n h => isL l n h = true) (fun _ n h => isL l n h = false) none (fun _ => True) 64 #[.pointer (some ⟨gl, 0, none⟩)] where
  enters := enters_of Try.func64 (by kernel_rfl) rfl
  le_refl := fun _ => trivial
  le_trans := fun _ _ _ _ _ => trivial
  yes_mono := fun _ _ _ _ _ h => h
  no_mono := fun _ _ _ _ _ h => h
  at_step := fun _ _ _ h hb => below_step h hb
  at_lt := fun _ _ _ g e => by cases e
  call := fun s W n h _ ha => (right1_any l A c h9 n h gl W (hl.deep ha) ((ha.cell (p := ⟨gl, 0, none⟩) (World.block_lt_of_cell? _ _ hg)).trans hg)).mono fun e w' hh => ⟨_, (), hh.1, trivial, below_step ha hh.2, id, id, grown_below hh.2 none⟩
theorem ful_pure (l : List Fd) (A : Option Addr) (c : Nat) (h9 : l.length ≤ Big) (gl : Nat) (x : Cls) (NA BA : Option Addr) (nc bc : Nat) (n9 : x.needs.length ≤ Big) (b9 : x.bars.length ≤ Big) (w : World) (hl : FdsC w A l) (hg : w.cell? ⟨gl, 0, none⟩ = some (.slice A l.length c)) (hN : Nums w w.heap.size NA x.needs) (hB : Nums w w.heap.size BA x.bars) :
    Calls Try.prog 59 #[.agg (clsC x (.slice NA x.needs.length nc) (.slice BA x.bars.length bc)), .func (.func 64) #[] #[.pointer (some ⟨gl, 0, none⟩)]] w fun e w' => e = .returned (.bool (okB (isL l) x)) ∧ Below w.heap.size w w' := by
  refine (fulfilled_any (isFn_right l A c h9 gl w hl hg) x NA BA nc bc n9 b9 ⟨fun _ _ => trivial, fun _ _ => trivial⟩ () w (Below.refl _ _) hN hB).mono fun e w' ⟨b, t, he, _, hb, h1, h2, _⟩ => ⟨?_, hb⟩
  rw [he]
  congr 2
  cases b
  · symm
    rcases h2 rfl with ⟨n, hn, k⟩ | ⟨n, hn, k⟩
    · unfold okB
      rw [List.all_eq_false.2 ⟨n, hn, by rw [k]; simp⟩, Bool.false_and]
    · unfold okB
      rw [List.all_eq_false (l := x.bars) |>.2 ⟨n, hn, by rw [k]; simp⟩, Bool.and_false]
  · symm
    obtain ⟨k1, k2⟩ := h1 rfl
    unfold okB
    rw [List.all_eq_true.2 k1, List.all_eq_true.2 k2]
    rfl
theorem exc_pure (l : List Fd) (A : Option Addr) (c : Nat) (h9 : l.length ≤ Big) (gl : Nat) (x : Cls) (NA BA : Option Addr) (nc bc : Nat) (n9 : x.needs.length ≤ Big) (b9 : x.bars.length ≤ Big) (w : World) (hl : FdsC w A l) (hg : w.cell? ⟨gl, 0, none⟩ = some (.slice A l.length c)) (hN : Nums w w.heap.size NA x.needs) (hB : Nums w w.heap.size BA x.bars) :
    Calls Try.prog 68 #[.agg (clsC x (.slice NA x.needs.length nc) (.slice BA x.bars.length bc)), .func (.func 64) #[] #[.pointer (some ⟨gl, 0, none⟩)]] w fun e w' => e = .returned (.bool (exB (isL l) x)) ∧ Below w.heap.size w w' := by
  refine (excluded_any (isFn_right l A c h9 gl w hl hg) x NA BA nc bc n9 b9 ⟨fun _ _ => trivial, fun _ _ => trivial⟩ () w (Below.refl _ _) hN hB).mono fun e w' ⟨b, t, he, _, hb, h1, h2, _⟩ => ⟨?_, hb⟩
  rw [he]
  congr 2
  cases b
  · symm
    obtain ⟨k1, k2⟩ := h2 rfl
    unfold exB
    rw [List.any_eq_false.2 (fun n hn => by rw [k1 n hn]; simp), List.any_eq_false.2 (fun n hn => by rw [k2 n hn]; simp)]
    rfl
  · symm
    unfold exB
    rw [Bool.or_eq_true]
    rcases h1 rfl with ⟨n, hn, k⟩ | ⟨n, hn, k⟩
    · exact .inl (List.any_eq_true.2 ⟨n, hn, k⟩)
    · exact .inr (List.any_eq_true.2 ⟨n, hn, k⟩)
/-- slices.Contains at integers. -/
theorem contains_any (v : Value) (l : List Int) (x : Int) (w : World) (hv : IntsV w w.heap.size v l) :
    Calls Try.prog 70 #[v, .int .i64 x] w fun e w' => e = .returned (.bool (l.contains x)) ∧ w' = w := by
  obtain ⟨A, c, rfl, h9, hn⟩ := hv
  rcases hn with rfl | ⟨b, o, rfl, hb, hc⟩
  · exact Try.slices_Contains_int_empty A c x w
  · have := Try.slices_Contains_int b o l.length c l x w (Nat.le_refl _) h9 (fun j hj => by
      have h1 := hc j _ (List.getElem?_eq_getElem hj)
      rw [h1]
      simp [List.getD, List.getElem?_eq_getElem hj])
    rwa [List.take_of_length_le (Nat.le_refl _)] at this
end Go.Proofs.Ytiglkecmamnphaa
