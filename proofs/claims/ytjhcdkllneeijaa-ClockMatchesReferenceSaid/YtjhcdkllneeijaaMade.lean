/- Made: a clock whose readings are of a course. -/
import Derived.Test.YtjhcdkllneeijaaShw
import Derived.Test.YtjhcdkllneeijaaAt
import Derived.Deep.Cut
import Derived.Deep.DeepCutAuto
import Derived.Laws.AppendOwn
import Derived.Handy
import Derived.RangeFuncBox
namespace Go.Proofs.Ytjhcdkllneeijaa
open Go.RowKit

/-- A reading of a course. -/
def OkR (d start : Int) (rates : List Int) (r : Rd) : Prop := ∃ s : Int, 0 ≤ s ∧ s < 3000 ∧ r.1 = shN d start rates s ∧ 0 ≤ r.2.1 ∧ r.2.1 ≤ s ∧ s ≤ r.2.2 ∧ r.2.2 ≤ s + 50
/-- The readings' cells. -/
def enc3 (r : Rd) : List Value := [.int .i64 r.1, .int .i64 r.2.1, .int .i64 r.2.2]
def flat3 (rs : List Rd) : List Value := rs.flatMap enc3
theorem flat3_len (rs : List Rd) : (flat3 rs).length = rs.length * 3 := by
  induction rs with
  | nil => rfl
  | cons x l ih => show (enc3 x ++ flat3 l).length = _; rw [List.length_append, ih]; simp [enc3]; omega
theorem flat3_app (a b : List Rd) : flat3 (a ++ b) = flat3 a ++ flat3 b := by simp [flat3]
theorem flat3_at : ∀ (rs : List Rd) (i : Nat) (r : Rd), rs[i]? = some r → (flat3 rs)[i * 3]? = some (.int .i64 r.1) ∧ (flat3 rs)[i * 3 + 1]? = some (.int .i64 r.2.1) ∧ (flat3 rs)[i * 3 + 2]? = some (.int .i64 r.2.2)
  | [], i, r, h => by simp at h
  | x :: l, 0, r, h => by
    cases h
    exact ⟨rfl, rfl, rfl⟩
  | x :: l, i + 1, r, h => by
    have := flat3_at l i r (by simpa using h)
    have e : flat3 (x :: l) = .int .i64 x.1 :: .int .i64 x.2.1 :: .int .i64 x.2.2 :: flat3 l := rfl
    rw [e, show (i + 1) * 3 = i * 3 + 1 + 1 + 1 by omega, show i * 3 + 1 + 1 + 1 + 1 = i * 3 + 1 + 1 + 1 + 1 from rfl]
    exact this
theorem own_rds {w : World} {B n cap : Nat} {e : TypeId} {A : Option Addr} {rs : List Rd} (hn : n = rs.length) (h : w.ownsRow B e 3 (.slice A n cap) n (flat3 rs)) : Rds w w.heap.size A rs := by
  rcases h.2 with ⟨_, h1⟩ | ⟨g, c, cur, hv, hB, hg, _, _, hs, ht⟩
  · exact .inl (List.eq_nil_of_length_eq_zero (by omega))
  · have hlt : g < w.heap.size := by
      rcases Nat.lt_or_ge g w.heap.size with k | k
      · exact k
      · rw [Array.getElem?_eq_none k] at hg; cases hg
    cases hv
    refine .inr ⟨g, 0, rfl, hlt, fun i r hr => ?_⟩
    obtain ⟨c0, c1, c2⟩ := flat3_at rs i r hr
    have hi : i < rs.length := (List.getElem?_eq_some_iff.1 hr).1
    have hc : ∀ (j : Nat) (v : Value), j < n * 3 → (flat3 rs)[j]? = some v → w.cell? ⟨g, j, none⟩ = some v := by
      intro j v hj hv
      rw [← ht, List.getElem?_take_of_lt hj, Array.getElem?_toList] at hv
      rw [cell_of_row w g j cur e (0, 0) hg]; exact hv
    rw [Nat.zero_add]
    exact ⟨hc _ _ (by omega) c0, hc _ _ (by omega) c1, hc _ _ (by omega) c2⟩
/-- A further reading behind valid ones. -/
theorem good_snoc : ∀ (rs : List Rd) (b : Int) (r : Rd), goodB b rs = true → (∀ y, rs.getLast? = some y → y.1 < r.1) → b < r.1 → r.1 ≤ 10000000 → 0 ≤ r.2.1 → r.2.1 ≤ r.2.2 → r.2.2 ≤ 10000000 → goodB b (rs ++ [r]) = true
  | [], b, r, _, _, h1, h2, h3, h4, h5 => by simp [goodB]; omega
  | x :: l, b, r, h, hl, h1, h2, h3, h4, h5 => by
    simp only [goodB, Bool.and_eq_true, decide_eq_true_eq] at h
    obtain ⟨⟨⟨⟨⟨a1, a2⟩, a3⟩, a4⟩, a5⟩, a6⟩ := h
    have hx : x.1 < r.1 := by
      cases hle : l.getLast? with
      | none => 
        have : l = [] := by simpa using hle
        exact hl x (by rw [this]; rfl)
      | some y =>
        have hy := hl y (by rw [List.getLast?_cons, hle]; rfl)
        have := (good_all a6) y (List.mem_of_getLast? hle)
        omega
    have ih := good_snoc l x.1 r a6 (fun y hy => hl y (by rw [List.getLast?_cons, hy]; rfl)) hx h2 h3 h4 h5
    simp only [List.cons_append, goodB, Bool.and_eq_true, decide_eq_true_eq]
    exact ⟨⟨⟨⟨⟨a1, a2⟩, a3⟩, a4⟩, a5⟩, ih⟩
/-- How many of the first k places fall on a second ahead of T; at T. -/
def before (l : List Rd) (T : Int) (k : Nat) : Nat := (l.take k).countP (fun r => decide (pk r.1 3000 < T))
def equal (l : List Rd) (T : Int) (k : Nat) : Nat := (l.take k).countP (fun r => decide (pk r.1 3000 = T))
theorem before_le (l : List Rd) (T : Int) (k : Nat) : before l T k ≤ k := Nat.le_trans (List.countP_le_length) (by simp; omega)
theorem before_step (l : List Rd) (T : Int) (k : Nat) : before l T k + equal l T k = before l (T + 1) k := by
  unfold before equal
  induction l.take k with
  | nil => rfl
  | cons x xs ih =>
    simp only [List.countP_cons]
    by_cases h1 : pk x.1 3000 < T
    · simp only [decide_eq_true h1, decide_eq_false (show ¬ pk x.1 3000 = T by omega), decide_eq_true (show pk x.1 3000 < T + 1 by omega), if_true, Bool.false_eq_true, if_false]; omega
    · by_cases h2 : pk x.1 3000 = T
      · simp only [decide_eq_false h1, decide_eq_true h2, decide_eq_true (show pk x.1 3000 < T + 1 by omega), if_true, Bool.false_eq_true, if_false]; omega
      · simp only [decide_eq_false h1, decide_eq_false h2, decide_eq_false (show ¬ pk x.1 3000 < T + 1 by omega), Bool.false_eq_true, if_false]; omega
theorem equal_succ (l : List Rd) (T : Int) {k : Nat} {r : Rd} (h : l[k]? = some r) : equal l T (k + 1) = equal l T k + (if pk r.1 3000 = T then 1 else 0) := by
  unfold equal
  rw [List.take_add_one, h, List.countP_append]
  simp
theorem equal_mono (l : List Rd) (T : Int) (k : Nat) : equal l T k ≤ equal l T (k + 1) := by
  unfold equal
  rw [List.take_add_one, List.countP_append]
  omega
theorem equal_all (l : List Rd) (T : Int) {k m : Nat} (h : k ≤ m) : equal l T k ≤ equal l T m := by
  obtain ⟨j, rfl⟩ : ∃ j, m = k + j := ⟨m - k, by omega⟩
  induction j with
  | zero => exact Nat.le_refl _
  | succ j ih => exact Nat.le_trans (ih (by omega)) (equal_mono l T (k + j))
theorem rd_info : (Try.prog.info? 50).map (fun i => (i.zero, i.size, i.bytes)) = some (some (.agg #[.int .i64 0, .int .i64 0, .int .i64 0]), 3, 24) := by kernel_rfl
theorem three_new (w : World) (a b c : Value) (t : TypeId) : ∀ (j : Nat) (u : Value), [a, b, c][j]? = some u → (w.alloc (.cells #[a, b, c] t)).cell? ((⟨w.heap.size, 0, none⟩ : Addr).add j) = some u := by
  intro j u h
  have h2 := (Row.made w t #[a, b, c]).at (i := j) (v := u) (by simpa using h)
  by_cases h0 : j = 0
  · subst h0; exact h2
  · rw [show (⟨w.heap.size, 0, none⟩ : Addr).add j = ⟨w.heap.size, j, none⟩ by simp [Addr.add, h0]]; exact h2

/-- The state of Made: the result's block, the clock's block, its readings. -/
structure Mst (w wr : World) (d : Int) (A : Option Addr) (cap : Nat) (rs : List Rd) : Prop where
  res : Row wr w.heap.size 24 #[.int .i64 0, .slice none 0 0]
  clk : Row wr (w.heap.size + 1) 24 #[.int .i64 d, .slice A rs.length cap]
  own : wr.ownsRow (w.heap.size + 2) 50 3 (.slice A rs.length cap) rs.length (flat3 rs)
  bel : Below w.heap.size w wr
  size : w.heap.size + 2 ≤ wr.heap.size
section
variable {w wr : World} {d : Int} {A : Option Addr} {cap : Nat} {rs : List Rd}
theorem Mst.later (h : Mst w wr d A cap rs) (o : Obj) : Mst w (wr.alloc o) d A cap rs := ⟨h.res.later o, h.clk.later o, h.own.alloc o, keep_alloc h.bel o, by have := h.size; simp; omega⟩
theorem Mst.drewN (h : Mst w wr d A cap rs) (n : Nat) : Mst w (wr.drewN n) d A cap rs := ⟨h.res.drawnN n, h.clk.drawnN n, h.own, below_drawnN h.bel n, h.size⟩
theorem Mst.drew (h : Mst w wr d A cap rs) : Mst w wr.drew d A cap rs := ⟨h.res.drawn, h.clk.drawn, h.own, h.bel.drew, h.size⟩
end
theorem own_drawnN {w : World} {B n k : Nat} {e : TypeId} {v : Value} {xs : List Value} (h : w.ownsRow B e k v n xs) (m : Nat) : (w.drewN m).ownsRow B e k v n xs := h
theorem le_alloc {w : World} {B n : Nat} {o : Obj} (h : B ≤ w.heap.size) : B ≤ ((w.drewN n).alloc o).heap.size := by
  show B ≤ (w.heap.push o).size
  simp; omega
theorem grown_set (w : World) (p : Addr) (v : Value) : w.grownBy (w.setCell p v) (some p.block) := ⟨rfl, rfl, rfl, by simp [World.setCell], fun k _ hk => Below.heap_setCell w p v k (fun e => hk (by rw [e]))⟩
theorem Mst.next {w X w1 : World} {d : Int} {A : Option Addr} {cap n : Nat} {rs : List Rd} {r : Rd} {g' cap' : Nat} (hn : n = rs.length) (h : Mst w X d A cap rs) (hg : X.grownBy w1 (Value.slice A n cap).ownBlock)
    (ho : w1.ownsRow (w.heap.size + 2) 50 3 (.slice (some ⟨g', 0, none⟩) (n + 1) cap') (n + 1) (flat3 rs ++ enc3 r)) :
    (Row w1 (w.heap.size + 1) 24 #[.int .i64 d, .slice A n cap]) ∧ Mst w (w1.setCell ⟨w.heap.size + 1, 1, none⟩ (.slice (some ⟨g', 0, none⟩) (n + 1) cap')) d (some ⟨g', 0, none⟩) cap' (rs ++ [r]) := by
  subst hn
  have hlt := fun k hk => (h.own.lt k hk).1
  have c1 : Row w1 (w.heap.size + 1) 24 #[.int .i64 d, .slice A rs.length cap] := h.clk.grown hg (fun e => by have := hlt _ e.symm; omega)
  have c0 : Row w1 w.heap.size 24 #[.int .i64 0, .slice none 0 0] := h.res.grown hg (fun e => by have := hlt _ e.symm; omega)
  have hl : (rs ++ [r]).length = rs.length + 1 := by simp
  have hgl := (ho.lt g' rfl).1
  refine ⟨c1, ⟨c0.aside (by simp) _, ?_, ?_, ?_, ?_⟩⟩
  · rw [hl]; exact c1.put1 _
  · rw [hl, flat3_app, show flat3 [r] = enc3 r by simp [flat3]]
    exact ho.kept (grown_set _ _ _) (.inr (fun e => by
      have : g' = w.heap.size + 1 := by simpa [Value.ownBlock] using e
      omega))
  · exact (h.bel.grown hg (by have := h.size; omega) (fun k hk => by have := hlt k hk; omega)).setCell (p := ⟨w.heap.size + 1, 1, none⟩) (by simp) _
  · have := hg.size
    have := h.size
    simp [World.setCell]
    omega
/-- What Made hands back. -/
structure Mok (d start : Int) (rates : List Int) (rs : List Rd) : Prop where
  ok : ∀ r ∈ rs, OkR d start rates r
  good : goodB (-1) rs = true
  len : rs.length ≤ 12
theorem load_clk {w : World} {g : Nat} {a b : Value} (h : Row w g 24 #[a, b]) : (loadVar 24 ⟨g, 0, none⟩).run Try.prog w = .ok (.agg #[a, b]) w := by
  obtain ⟨k0, k1, _, _⟩ := h.two
  simp [loadVar, go_sem, k0, k1]
section
variable {fn : Func} {p : Tmp} {tmps : Array Value} {w : World} {g : Nat} {a b : Value}
theorem res_clk (h : fn.results = #[.cell p 24]) (hp : tmps.getD p undef = .pointer (some ⟨g, 0, none⟩)) (hr : Row w g 24 #[a, b]) : (results fn tmps).run Try.prog w = .ok (.agg #[a, b]) w := by
  have hl := load_clk hr
  have ha := asAddr_ptr (w := w) hp
  simp only [results, h]
  simp only [List.size_toArray, List.length_cons, List.length_nil, Nat.reduceAdd, List.mapM_toArray, List.mapM_cons, List.mapM_nil]
  simp [Sem.run_bind, Result.andThen, ha, hl, -Array.getD_eq_getD_getElem?]
end

set_option maxRecDepth 100000 in
set_option maxHeartbeats 16000000 in
theorem made_any (drift start : Int) (rates : List Int) (RA : Option Addr) (rc : Nat) (l : List Rd) (LA : Option Addr) (lc : Nat) (b0 : In64 drift) (b1 : In64 start) (hrr : ∀ r ∈ rates, In64 r) (hrn : rates.length ≤ 9223372036854775807)
    (hlr : ∀ r ∈ l, In64 r.1 ∧ In64 r.2.1 ∧ In64 r.2.2) (hln : l.length ≤ 9223372036854775807) (w : World) (hr : Nums w w.heap.size RA rates) (hl : Rds w w.heap.size LA l) :
    Calls Try.prog 16 #[.int .i64 drift, .int .i64 start, .slice RA rates.length rc, .slice LA l.length lc] w fun e w' =>
      ∃ (A : Option Addr) (cap : Nat) (rs : List Rd), e = .returned (clk (pk drift 101) A rs.length cap) ∧ Mok (pk drift 101) start rates rs ∧ Rds w' w'.heap.size A rs ∧ Below w.heap.size w w' := by
  obtain ⟨i0, hi0, hz0, hz1, hz2⟩ := info_parts rd_info
  obtain ⟨L, hL⟩ : ∃ L, L = l.length := ⟨_, rfl⟩
  obtain ⟨R, hR⟩ : ∃ R, R = rates.length := ⟨_, rfl⟩
  have p1 := fun W => rpick_any drift 101 b0.1 b0.2 (by omega) (by omega) W
  have r1 := pk_range (c := drift) (n := 101) (by omega)
  have sh := fun (t : Int) (t0 : 0 ≤ t) (t1 : t ≤ 5000) (W : World) (h : Below w.heap.size w W) => shown_any drift start t rates RA rc w.heap.size b0 b1 hrr hrn t0 t1 W (hr.below h)
  rw [← hR] at sh hrn ⊢
  rw [← hL] at hln ⊢
  generalize pk drift 101 = d at *
  obtain ⟨r1a, r1b⟩ := r1
  have HP1 := Lib.hid p1; have HL := Lib.hid hL; have HLD := Lib.hid hl; have HLR := Lib.hid hlr; have HSH := Lib.hid sh
  clear p1 hL hl hlr sh hrr hR
  unfold clk
  go_enter Try.func16, Try.ntmps16
  go_wp2_with (go_at_call 35; (with_reducible refine (HP1.out _).mono ?_); rintro e wx ⟨rfl, hwx⟩; have hwx := hwx.symm; subst hwx)
  go_loopg [10, 11, 12, 13] 3000 (fun kx s10 s11 s12 s13 wr => ∃ (T cap : Nat) (A : Option Addr) (rs : List Rd), s10 = .int .i64 (T : Int) ∧ T + kx = 3000 ∧ Mst w wr d A cap rs ∧ Hid ((∀ r ∈ rs, OkR d start rates r) ∧ goodB (-1) rs = true ∧ rs.length ≤ before l (T : Int) 12))
  case atStart =>
    refine ⟨0, 0, none, [], rfl, rfl, ⟨(Row.made _ _ _).later _, Row.made_at _ _ _ (by simp), ⟨rfl, .inl ⟨rfl, rfl⟩⟩, keep_alloc (below_alloc _ _) _, by simp⟩, Lib.hid ⟨by simp, rfl, by simp⟩⟩
  case round =>
    obtain ⟨T, cap, A, rs, rfl, hT, hM, I⟩ := hrel
    by_cases hlt : T < 3000
    · have hlt' : decide ((T : Int) < 3000) = true := decide_eq_true (by omega)
      go_wp2
      clear hlt'
      go_loopg [11, 12, 13] 12 (fun kx s11 s12 s13 wr => ∃ (k cap : Nat) (A : Option Addr) (rs : List Rd), s11 = .int .i64 (k : Int) ∧ k + kx = 12 ∧ k ≤ L ∧ Mst w wr d A cap rs ∧ Hid ((∀ r ∈ rs, OkR d start rates r) ∧ goodB (-1) rs = true ∧ rs.length ≤ before l (T : Int) 12 + equal l (T : Int) k))
      case atStart => exact ⟨0, cap, A, rs, rfl, rfl, by omega, hM, Lib.hid ⟨I.out.1, I.out.2.1, Nat.le_trans I.out.2.2 (Nat.le_add_right _ _)⟩⟩
      case round =>
        clear hM I
        obtain ⟨k, cap, A, rs, rfl, hk, hkL, hM, I⟩ := hrel
        by_cases hgo : k < L ∧ k < 12
        · obtain ⟨g1, g2⟩ := hgo
          obtain ⟨⟨x1, x2, x3⟩, hv⟩ : ∃ y, l[k]? = some y := ⟨l[k]'(by rw [← HL.out]; exact g1), by simp⟩
          obtain ⟨lb, lo', hA, hbb, e0, e1, e2⟩ := (HLD.out.below hM.bel).at hv
          subst hA
          dsimp only at e0 e1 e2
          obtain ⟨i1, i2, i3⟩ := HLR.out _ (List.mem_of_getElem? hv)
          dsimp only at i1 i2 i3
          have hes := equal_succ l (T : Int) hv
          dsimp only at hes
          have p2 := fun W => rpick_any x1 3000 i1.1 i1.2 (by omega) (by omega) W
          have r2 := pk_range (c := x1) (n := 3000) (by omega)
          generalize pk x1 3000 = q1 at *
          have HP2 := Lib.hid p2; have HM := Lib.hid hM; have HES := Lib.hid hes
          clear p2 hM hes
          by_cases hq : q1 = (T : Int)
          · have p3 := fun W => rpick_any x2 51 i2.1 i2.2 (by omega) (by omega) W
            have r3 := pk_range (c := x2) (n := 51) (by omega)
            generalize pk x2 51 = q2 at *
            have p4 := fun W => rpick_any x3 51 i3.1 i3.2 (by omega) (by omega) W
            have r4 := pk_range (c := x3) (n := 51) (by omega)
            generalize pk x3 51 = q3 at *
            have sr := shN_range (start := start) r1a (show d ≤ 100 by omega) rates (show (0 : Int) ≤ T by omega) (by omega)
            have sh := HSH.out (T : Int) (by omega) (by omega)
            obtain ⟨S, hS⟩ : ∃ S, S = shN d start rates (T : Int) := ⟨_, rfl⟩
            rw [← hS] at sh sr
            obtain ⟨lo, hlo⟩ : ∃ lo, max ((T : Int) - q2) 0 = lo := ⟨_, rfl⟩
            have hlo1 : 0 ≤ lo ∧ lo ≤ T := by omega
            obtain ⟨r2a, r2b⟩ := r2; obtain ⟨r3a, r3b⟩ := r3; obtain ⟨r4a, r4b⟩ := r4
            have HP3 := Lib.hid p3; have HP4 := Lib.hid p4; have HS2 := Lib.hid sh; have HSS := Lib.hid hS
            have hw1 : IntKind.i64.wrap ((T : Int) - q2) = (T : Int) - q2 := IntWalk.i64_in _ (by omega)
            have hw2 : IntKind.i64.wrap ((T : Int) + q3) = (T : Int) + q3 := IntWalk.i64_in _ (by omega)
            clear p3 p4 sh hS
            obtain ⟨m0, m1, _⟩ := HM.out.clk.two
            subst hq
            have HV := Lib.hid hv
            clear i1 hv
            go_wp2_with (go_at_call 35; (with_reducible refine (HP2.out _).mono ?_); rintro e wx ⟨rfl, hwx⟩; have hwx := hwx.symm; subst hwx)
            have HL2 := Lib.hid (And.intro i2 i3)
            have kk : ∀ W, Mst w W d A cap rs → (Hid (Mst w W d A cap rs) ∧ W.cell? ⟨lb, lo' + k * 3 + 1, none⟩ = some (.int .i64 x2) ∧ W.cell? ⟨lb, lo' + k * 3 + 2, none⟩ = some (.int .i64 x3)) := fun W h => by
              obtain ⟨b', o', hA', _, _, e1', e2'⟩ := (HLD.out.below h.bel).at HV.out
              cases hA'
              exact ⟨Lib.hid h, e1', e2'⟩
            have gg : ∀ W, (Hid (Mst w W d A cap rs) ∧ W.cell? ⟨lb, lo' + k * 3 + 1, none⟩ = some (.int .i64 x2) ∧ W.cell? ⟨lb, lo' + k * 3 + 2, none⟩ = some (.int .i64 x3)) → Mst w W d A cap rs := fun W h => h.1.out
            have KK := Lib.hid kk; have GG := Lib.hid gg
            clear kk gg
            go_cut [12] (fun s12 W => s12 = .pointer (some ⟨wr.heap.size, 0, none⟩) ∧ Row W wr.heap.size 50 #[.int .i64 S, .int .i64 lo, .int .i64 ((T : Int) + q3)] ∧ Mst w W d A cap rs)
            case first =>
              go_region_held3 (fun W => Hid (Mst w W d A cap rs) ∧ W.cell? ⟨lb, lo' + k * 3 + 1, none⟩ = some (.int .i64 x2) ∧ W.cell? ⟨lb, lo' + k * 3 + 2, none⟩ = some (.int .i64 x3))
                (first | assumption | exact KK.out _ HM.out.drew | exact KK.out _ HM.out | exact KK.out _ (Mst.drew (GG.out _ (by assumption))) | exact KK.out _ (Mst.later (GG.out _ (by assumption)) _) | exact KK.out _ (Mst.drew (Mst.later HM.out _)) | exact KK.out _ (Mst.later (Mst.drew HM.out) _))
                (first
                  | (go_at_call 35; (first | ((with_reducible refine (HP3.out _).mono ?_); rintro e wx ⟨rfl, hwx⟩; have hwx := hwx.symm; subst hwx) | ((with_reducible refine (HP4.out _).mono ?_); rintro e wx ⟨rfl, hwx⟩; have hwx := hwx.symm; subst hwx)))
                  | (go_at_call 28; ((refine (HS2.out _ (Mst.bel (GG.out _ (by assumption)))).mono ?_); rintro e wx ⟨rfl, hwx⟩; have hwx := hwx.symm; subst hwx)))
              all_goals go_wp2_with fail
              all_goals go_meet
              all_goals (case rel => exact ⟨rfl, by first | exact (Row.made _ _ _).drawn | exact Row.made _ _ _, by first | exact (HM.out.later _).drew | exact HM.out.drew.later _⟩)
            case rest =>
              obtain ⟨rfl, q5, q6⟩ := hcut
              obtain ⟨N, hN⟩ : ∃ N, N = rs.length := ⟨_, rfl⟩
              have hN12 : N ≤ 12 := by
                have h1 := I.out.2.2
                have h3 := before_step l (T : Int) 12
                have h4 := before_le l ((T : Int) + 1) 12
                have h5 : equal l (T : Int) k ≤ equal l (T : Int) 12 := equal_all l _ (by omega)
                omega
              have hok : ∀ r ∈ rs ++ [(S, lo, (T : Int) + q3)], OkR d start rates r := fun r hr => by
                rcases List.mem_append.1 hr with hr | hr
                · exact I.out.1 r hr
                · rw [List.mem_singleton.1 hr]
                  exact ⟨(T : Int), by omega, by omega, HSS.out, by dsimp only; omega, by dsimp only; omega, by dsimp only; omega, by dsimp only; omega⟩
              have hlen : (rs ++ [(S, lo, (T : Int) + q3)]).length ≤ before l (T : Int) 12 + equal l (T : Int) (k + 1) := by
                have h1 := I.out.2.2
                rw [HES.out, List.length_append]
                simp only [List.length_singleton, if_true]
                omega
              have hrds := own_rds rfl q6.own
              have how := q6.own
              rw [← hN] at how
              obtain ⟨s0, s1, s2, s3, s4, s5⟩ := q5.three
              obtain ⟨u0, u1, u2, u3⟩ := q6.clk.two
              rw [← hN] at u1
              have hsz := q6.size
              have Q6 := Lib.hid q6; have HOK := Lib.hid hok; have HLEN := Lib.hid hlen; have OW := Lib.hid how; have HN := Lib.hid hN
              clear q5 q6 hok hlen how KK GG HP2 HP3 HP4 HS2 HM m0 m1
              by_cases h0 : N = 0
              · subst h0
                have hrs : rs = [] := List.eq_nil_of_length_eq_zero HN.out.symm
                have HLA := Lib.hid (show ∀ y, rs.getLast? = some y → y.1 < S from fun y hy => by rw [hrs] at hy; cases hy)
                clear hrs hN hrds
                go_wp2
                go_quiet (fail)
                go_wp2_with (at_builtin; refine wpList_append_own _ rfl _ _ 22 rfl (w.heap.size + 2) 50 i0 (.agg #[.int .i64 0, .int .i64 0, .int .i64 0]) 3 24 Try.underlying22 hi0 hz0 hz1 hz2 rfl (by decide) _ _ _ rfl (((own_drawnN OW.out _).alloc _)) ⟨wc.heap.size, 0, none⟩ 1 1 [.int .i64 S, .int .i64 lo, .int .i64 ((T : Int) + q3)] rfl rfl (three_new (World.drewN wc _) _ _ _ _) (by simp [Value.oneCell']) (by unfold maxLen; omega) (by omega) (le_alloc hsz) ?_; intro v' w1 hown' hgrow _; obtain ⟨g', cap', rfl⟩ := ownsRow_succ hown'; have nx := Mst.next (w := w) (d := d) (cap := cap) (rs := rs) (r := (S, lo, (T : Int) + q3)) (g' := g') (cap' := cap') HN.out (Mst.later (Mst.drewN Q6.out _) _) hgrow hown'; obtain ⟨n1, n2⟩ := nx; obtain ⟨_, _, n3, n4⟩ := n1.two; have N2 := Lib.hid n2; clear hown' hgrow n1 n2)
                go_roundg (12 - (k + 1))
                case measure => omega
                case rel => exact ⟨k + 1, cap', _, rs ++ [(S, lo, (T : Int) + q3)], by go_num, by omega, by omega, N2.out, Lib.hid ⟨HOK.out, good_snoc rs (-1) _ I.out.2.1 HLA.out (by dsimp only; omega) (by dsimp only; omega) (by dsimp only; omega) (by dsimp only; omega) (by dsimp only; omega), HLEN.out⟩⟩
              · obtain ⟨M, hMN⟩ : ∃ M, N = M + 1 := ⟨N - 1, by omega⟩
                obtain ⟨⟨z1, z2, z3⟩, hz⟩ : ∃ y, rs[M]? = some y := ⟨rs[M]'(by omega), by simp⟩
                have hgl : rs.getLast? = some (z1, z2, z3) := by rw [List.getLast?_eq_getElem?, ← HN.out, hMN]; exact hz
                obtain ⟨gb, go, hA, _, v0, _, _⟩ := hrds.at hz
                subst hA
                dsimp only at v0
                have HGL := Lib.hid hgl
                have e1 : (N : Int) - 1 = (M : Int) := by omega
                have e2 : decide ((M : Int) < (N : Int)) = true := decide_eq_true (by omega)
                have e3 : M < N := by omega
                have e4 : decide (N = 0) = false := decide_eq_false h0
                have e5 : ((N : Int) == 0) = false := by simpa using h0
                have e6 : decide ((N : Int) = 0) = false := decide_eq_false (by omega)
                clear hN hrds hz hgl hMN
                by_cases hc : z1 < S
                · have HLA := Lib.hid (show ∀ y, rs.getLast? = some y → y.1 < S from fun y hy => by rw [HGL.out] at hy; cases hy; exact hc)
                  have hc' : decide (z1 < S) = true := decide_eq_true hc
                  go_wp2
                  go_quiet (fail)
                  go_wp2_with (at_builtin; refine wpList_append_own _ rfl _ _ 22 rfl (w.heap.size + 2) 50 i0 (.agg #[.int .i64 0, .int .i64 0, .int .i64 0]) 3 24 Try.underlying22 hi0 hz0 hz1 hz2 rfl (by decide) _ _ _ rfl (((own_drawnN OW.out _).alloc _)) ⟨wc.heap.size, 0, none⟩ 1 1 [.int .i64 S, .int .i64 lo, .int .i64 ((T : Int) + q3)] rfl rfl (three_new (World.drewN wc _) _ _ _ _) (by simp [Value.oneCell']) (by unfold maxLen; omega) (by omega) (le_alloc hsz) ?_; intro v' w1 hown' hgrow _; obtain ⟨g', cap', rfl⟩ := ownsRow_succ hown'; have nx := Mst.next (w := w) (d := d) (cap := cap) (rs := rs) (r := (S, lo, (T : Int) + q3)) (g' := g') (cap' := cap') HN.out (Mst.later (Mst.drewN Q6.out _) _) hgrow hown'; obtain ⟨n1, n2⟩ := nx; obtain ⟨_, _, n3, n4⟩ := n1.two; have N2 := Lib.hid n2; clear hown' hgrow n1 n2)
                  go_roundg (12 - (k + 1))
                  case measure => omega
                  case rel => exact ⟨k + 1, cap', _, rs ++ [(S, lo, (T : Int) + q3)], by go_num, by omega, by omega, N2.out, Lib.hid ⟨HOK.out, good_snoc rs (-1) _ I.out.2.1 HLA.out (by dsimp only; omega) (by dsimp only; omega) (by dsimp only; omega) (by dsimp only; omega) (by dsimp only; omega), HLEN.out⟩⟩
                · have hc' : decide (z1 < S) = false := decide_eq_false hc
                  go_wp2
                  go_quiet (fail)
                  go_wp2
                  go_roundg (12 - (k + 1))
                  case measure => omega
                  case rel => exact ⟨k + 1, cap, _, rs, by go_num, by omega, by omega, Q6.out.drewN _, Lib.hid ⟨I.out.1, I.out.2.1, by have := I.out.2.2; rw [HES.out]; omega⟩⟩
          · have hq' : decide (q1 = (T : Int)) = false := decide_eq_false hq
            go_wp2_with (go_at_call 35; (with_reducible refine (HP2.out _).mono ?_); rintro e wx ⟨rfl, hwx⟩; have hwx := hwx.symm; subst hwx)
            go_roundg (12 - (k + 1))
            case measure => omega
            case rel => exact ⟨k + 1, cap, A, rs, by go_num, by omega, by omega, HM.out, Lib.hid ⟨I.out.1, I.out.2.1, by have := I.out.2.2; rw [HES.out]; omega⟩⟩
        · have hend : rs.length ≤ before l ((T + 1 : Nat) : Int) 12 := by
            have h1 := I.out.2.2
            have h2 := before_step l (T : Int) 12
            have h3 : equal l (T : Int) k ≤ equal l (T : Int) 12 := equal_all l _ (by omega)
            rw [Int.natCast_add, show ((1 : Nat) : Int) = 1 from rfl]
            omega
          have HE := Lib.hid hend; have HM := Lib.hid hM
          clear hend hM
          by_cases h1 : k < L
          · have h2 : ¬ k < 12 := by omega
            clear hgo
            go_wp2
            go_roundg (3000 - (T + 1))
            case measure => omega
            case rel => exact ⟨T + 1, cap, A, rs, by go_num, by omega, HM.out, Lib.hid ⟨I.out.1, I.out.2.1, HE.out⟩⟩
          · clear hgo
            go_wp2
            go_roundg (3000 - (T + 1))
            case measure => omega
            case rel => exact ⟨T + 1, cap, A, rs, by go_num, by omega, HM.out, Lib.hid ⟨I.out.1, I.out.2.1, HE.out⟩⟩
    · have HM := Lib.hid hM
      obtain ⟨m0, m1, _⟩ := hM.clk.two
      obtain ⟨k0, k1, k2, k3⟩ := hM.res.two
      clear hM
      go_wp2
      (try simp only [Exit.inBlock, Exit.then])
      refine bodyPost_ret (res_clk rfl rfl (put2 HM.out.res _ _)) rfl ?_
      have hb := below_put HM.out.bel (Nat.le_refl _) (.int .i64 d) (.slice A rs.length cap)
      refine ⟨A, cap, rs, rfl, ⟨I.out.1, I.out.2.1, Nat.le_trans I.out.2.2 (before_le _ _ _)⟩, ?_, hb⟩
      have hne : (Value.slice A rs.length cap).ownBlock ≠ some w.heap.size := fun e => by have := (HM.out.own.lt _ e).1; omega
      exact own_rds rfl ((HM.out.own.kept (grown_set _ _ _) (.inr hne)).kept (grown_set _ _ _) (.inr hne))
end Go.Proofs.Ytjhcdkllneeijaa
