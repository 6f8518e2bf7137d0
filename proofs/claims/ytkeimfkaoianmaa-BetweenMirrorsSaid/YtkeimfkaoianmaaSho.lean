/- shortest: the first one of the chains with the fewest bounds. -/
import Derived.Test.YtkeimfkaoianmaaFo3
import Derived.Test.YtkeimfkaoianmaaRq
import Derived.Maps.AppendAt
namespace Go.Proofs.Ytkeimfkaoianmaa
open Go.RowKit Go.Shelf

def tabV (n : Nat) (ss : List Nat) : List Value := ss.map fun s => .slice (some ⟨s, 0, none⟩) n n
/-- What all rounds of shortest leave as it is. -/
structure Sb (w : World) (n L c : Nat) (A : Option Addr) (f t m : Int) (X : World) : Prop where
  below : Below w.heap.size w X
  size : w.heap.size + 6 ≤ X.heap.size
  b : Row X w.heap.size 28 #[.int .i64 (n : Int), .slice A L c]
  x : Row X (w.heap.size + 1) 30 #[.int .i64 f, .int .i64 t, .int .i64 m]
/-- The state when k tables have come, none of which shows the bound. -/
structure Sh (w : World) (bs : List Bn) (n L c : Nat) (A : Option Addr) (f t m : Int) (k lo : Nat) (X : World) (v : Value) (ss : List Nat) : Prop where
  base : Sb w n L c A f t m X
  r0 : Row X (w.heap.size + 1 + 1) 22 #[.slice none 0 0]
  r1 : Row X (w.heap.size + 1 + 1 + 1) 4 #[.bool false]
  lb : Row X (w.heap.size + 1 + 1 + 1 + 1) 80 #[v]
  own : X.ownsRow (w.heap.size + 6) 63 1 v k (tabV n ss)
  len : ss.length = k
  tbl : ∀ j s, ss[j]? = some s → Tbl X s n (tb bs j)
  no : ∀ j, j < k → m < tb bs j f t
  lo : ∀ g, v.ownBlock = some g → lo ≤ g
/-- The state when a chain has been found. -/
structure Sx (w : World) (bs : List Bn) (n L c : Nat) (A : Option Addr) (f t m : Int) (X : World) (k g cap : Nat) : Prop where
  base : Sb w n L c A f t m X
  r0 : Row X (w.heap.size + 1 + 1) 22 #[.slice (some ⟨g, 0, none⟩) k cap]
  r1 : Row X (w.heap.size + 1 + 1 + 1) 4 #[.bool true]
  own : X.ownsRow w.heap.size 3 1 (.slice (some ⟨g, 0, none⟩) k cap) k (natV (folL bs k f t m))
  le : k ≤ n
  fst : Fst bs k f t m
section
variable {w X Y : World} {bs : List Bn} {n L c k lo B : Nat} {A : Option Addr} {f t m : Int} {v : Value} {ss : List Nat}
theorem Sb.quiet (h : Sb w n L c A f t m X) (q : Quiet1 B X Y) (hB : w.heap.size ≤ B) : Sb w n L c A f t m Y := ⟨q.below h.below hB (by have := h.size; omega), Nat.le_trans h.size q.size, q.row h.b, q.row h.x⟩
theorem Sh.quiet (h : Sh w bs n L c A f t m k lo X v ss) (q : Quiet1 B X Y) (hB : w.heap.size ≤ B) : Sh w bs n L c A f t m k lo Y v ss :=
  ⟨h.base.quiet q hB, q.row h.r0, q.row h.r1, q.row h.lb, q.own h.own, h.len, fun j s hj => q.tbl (h.tbl j s hj), h.no, h.lo⟩
theorem Sx.quiet {g cap : Nat} (h : Sx w bs n L c A f t m X k g cap) (q : Quiet1 B X Y) (hB : w.heap.size ≤ B) : Sx w bs n L c A f t m Y k g cap :=
  ⟨h.base.quiet q hB, q.row h.r0, q.row h.r1, q.own h.own, h.le, h.fst⟩
theorem own_lots {B : Nat} (h : X.ownsRow B 63 1 v k (tabV n ss)) (hl : ss.length = k) : ∃ A c, v = .slice A k c ∧ Lots X X.heap.size A n ss := by
  rcases h.2 with ⟨rfl, rfl⟩ | ⟨g, cap, cur, rfl, hb, hg, hn, hm, hs, ht⟩
  · exact ⟨none, 0, rfl, .inl (List.eq_nil_of_length_eq_zero hl)⟩
  · refine ⟨_, _, rfl, .inr ⟨g, 0, rfl, (Array.getElem?_eq_some_iff.1 hg).1, fun j s hj => ?_⟩⟩
    have hjk : j < k := by
      rcases Nat.lt_or_ge j ss.length with h | h
      · omega
      · rw [List.getElem?_eq_none h] at hj; cases hj
    have := h.cellAt j (by rw [Nat.mul_one]; exact hjk)
    rw [Nat.zero_add]
    rw [this, tabV, List.getElem?_map, hj]; rfl
end
def OwnS (h i : Nat) : Prop := i = h + 1 + 1 ∨ i = h + 1 + 1 + 1 ∨ i = h + 1 + 1 + 1 + 1
theorem Sh.put {w X w5 : World} {bs : List Bn} {n L c k lo s : Nat} {A : Option Addr} {f t m : Int} {v v' : Value} {ss : List Nat} (h : Sh w bs n L c A f t m k lo X v ss)
    (hg : (X.alloc (.cells #[.slice (some ⟨s, 0, none⟩) n n] 63)).grownBy w5 v.ownBlock) (ho : w5.ownsRow (w.heap.size + 6) 63 1 v' (k + 1) (tabV n ss ++ [.slice (some ⟨s, 0, none⟩) n n]))
    (hb : v'.ownBlock = v.ownBlock ∨ v'.ownBlock = some (X.alloc (.cells #[.slice (some ⟨s, 0, none⟩) n n] 63)).heap.size) (hs : Tbl X s n (tb bs k)) (hlo : lo ≤ X.heap.size) (hno : m < tb bs k f t) :
    ∀ Y, Y = w5.setCell ⟨w.heap.size + 1 + 1 + 1 + 1, 0, none⟩ v' → Row w5 (w.heap.size + 1 + 1 + 1 + 1) 80 #[v] ∧ Sh w bs n L c A f t m (k + 1) lo Y v' (ss ++ [s]) ∧ KeepL n (w.heap.size + 6) (OwnS w.heap.size) k lo s X Y ∧
      ∀ (j : Nat) (o : Obj), X.heap[j]? = some o → o.isCells = false → Y.heap[j]? = some o := by
  intro Y hY
  have hz := h.base.size
  have hlt := fun k hk => (h.own.lt k hk).1
  have keep : ∀ j t' C, Row X j t' C → t' ≠ 63 → Row w5 j t' C := fun j t' C hr hne => (hr.later _).grown hg (own_row h.own hr hne)
  have lb5 := keep _ _ _ h.lb (by decide)
  have hYs : Y.heap.size = w5.heap.size := by rw [hY]; simp
  have oth : ∀ j, j ≠ w.heap.size + 1 + 1 + 1 + 1 → Y.heap[j]? = w5.heap[j]? := fun j hj => by rw [hY]; exact heap_setCell_other w5 ⟨w.heap.size + 1 + 1 + 1 + 1, 0, none⟩ j _ hj
  have keep2 : ∀ j t' C, Row X j t' C → t' ≠ 63 → j ≠ w.heap.size + 1 + 1 + 1 + 1 → Row Y j t' C := fun j t' C hr hne hj => (oth j hj).trans (keep j t' C hr hne)
  have tab : ∀ s' f', Tbl X s' n f' → Tbl Y s' n f' := fun s' f' ht =>
    ⟨keep2 _ _ _ ht.out (by decide) (fun e => row_ty h.lb ht.out (by decide) e), fun u hu => keep2 _ _ _ (ht.rows u hu) (by decide) (fun e => row_ty h.lb (ht.rows u hu) (by decide) e)⟩
  have hsz : X.heap.size ≤ Y.heap.size := by have := hg.size; simp at this; omega
  refine ⟨lb5, ⟨⟨?_, by omega, keep2 _ _ _ h.base.b (by decide) (by omega), keep2 _ _ _ h.base.x (by decide) (by omega)⟩, keep2 _ _ _ h.r0 (by decide) (by omega), keep2 _ _ _ h.r1 (by decide) (by omega), by rw [hY]; exact lb5.stored 0 _, ?_, by simp [h.len], fun j s' hj => ?_, fun j hj => ?_, fun g hg' => ?_⟩,
    ⟨hsz, fun i hi hx hO => ?_, fun i t' C hi hl hr => ?_, fun f' hf' => tab s f' hf'⟩, fun j o hj hc => ?_⟩
  · rw [hY]
    exact ((h.base.below.alloc (by omega) _).grown hg (by simp; omega) (fun k hk => by have := hlt k hk; omega)).setCell (p := ⟨w.heap.size + 1 + 1 + 1 + 1, 0, none⟩) (by show w.heap.size ≤ w.heap.size + 1 + 1 + 1 + 1; omega) _
  · rw [hY, tabV, List.map_append]
    exact ho.kept (grownBy_setCell' w5 (w.heap.size + 1 + 1 + 1 + 1) v') (.inr (fun e => own_row ho lb5 (by decide) e.symm))
  · rcases Nat.lt_or_ge j ss.length with hlt | hge
    · rw [List.getElem?_append_left hlt] at hj; exact tab _ _ (h.tbl j s' hj)
    · rw [List.getElem?_append_right hge] at hj
      have hl := h.len
      obtain rfl : j = k := by
        rcases Nat.eq_zero_or_pos (j - ss.length) with e | e
        · omega
        · rw [List.getElem?_eq_none (show [s].length ≤ j - ss.length from e)] at hj; cases hj
      rw [hl, Nat.sub_self] at hj
      cases hj
      exact tab _ _ hs
  · rcases Nat.lt_or_ge j k with hlt | hge
    · exact h.no j hlt
    · obtain rfl : j = k := by omega
      exact hno
  · rcases hb with e | e
    · exact h.lo g (e ▸ hg')
    · rw [e] at hg'; cases hg'; simp; omega
  · have hne : i ≠ w.heap.size + 1 + 1 + 1 + 1 := fun e => hO (.inr (.inr e))
    exact (oth i hne).trans ((hg.block i (by simp; omega) (fun e => by have := hlt i e.symm; omega)).trans (Below.heap_alloc X _ i hx))
  · have hin := hr.inside
    have e5 : w5.heap[i]? = X.heap[i]? := (hg.block i (by simp; omega) (fun e => by have := h.lo i e.symm; omega)).trans (Below.heap_alloc X _ i hin)
    exact ((oth i (by omega)).trans e5).trans hr
  · have hjX := (Array.getElem?_eq_some_iff.1 hj).1
    have e5 : w5.heap[j]? = some o := (hg.block j (by simp; omega) (own_cell h.own hj hc)).trans ((Below.heap_alloc X _ j hjX).trans hj)
    have hne : j ≠ w.heap.size + 1 + 1 + 1 + 1 := by
      rintro rfl
      rw [show X.heap[w.heap.size + 1 + 1 + 1 + 1]? = _ from h.lb] at hj; cases hj; cases hc
    exact (oth j hne).trans e5
theorem tab_info : (Try.prog.info? 63).map (fun i => (i.zero, i.size, i.bytes)) = some (some (.slice none 0 0), 1, 24) := by kernel_rfl
/-- What shortest answers. -/
def ShPost (w : World) (bs : List Bn) (n : Nat) (f t m : Int) (e : Ending) (w' : World) : Prop :=
  (∃ k g cap : Nat, k ≤ n ∧ Fst bs k f t m ∧ e = .returned (.tuple #[.slice (some ⟨g, 0, none⟩) k cap, .bool true]) ∧ w'.ownsRow w.heap.size 3 1 (.slice (some ⟨g, 0, none⟩) k cap) k (natV (folL bs k f t m)) ∧ Below w.heap.size w w') ∨
    ((∀ k, k ≤ n → m < tb bs k f t) ∧ e = .returned (.tuple #[.slice none 0 0, .bool false]) ∧ Below w.heap.size w w')

section
attribute [local go_sem] Oper.semAt_some
set_option maxRecDepth 100000 in
set_option maxHeartbeats 4000000 in
theorem shortest_in (m' n : Nat) (bs : List Bn) (A : Option Addr) (c : Nat) (f t m : Int) (hm : 4 ≤ m') (hn : n ≤ 16) (ho : Okb n bs) (h60 : bs.length ≤ 60) (hf : 0 ≤ f ∧ f < n) (ht : 0 ≤ t ∧ t < n) (hmm : -1000000000 ≤ m ∧ m ≤ 1000000000) (w : World) (hr : Rds w w.heap.size A bs) :
    CallsIn Fence.wide m' Try.prog 43 #[btw n A bs.length c, bnd (f, t, m)] w (ShPost w bs n f t m) := by
  obtain ⟨L, hLL⟩ : ∃ L, L = bs.length := ⟨_, rfl⟩
  rw [← hLL]
  rw [← hLL] at h60
  unfold btw bnd
  have hm1 : 1 ≤ m' := by omega
  have HLL := Lib.hid hLL; have HO := Lib.hid ho; have HR := Lib.hid hr
  clear hLL ho hr
  refine callsIn_of_wp_marks Try.func43 rfl trivial ?_ rfl
  simp only [Try.ntmps43, List.size_toArray, List.length_cons, List.length_nil, Nat.reduceAdd, Nat.reduceSub, Array.replicate_succ, Array.replicate_zero, List.push_toArray, List.append_toArray, List.nil_append, List.cons_append]
  gi_wp2_with (refine ⟨trivial, ?_⟩; gi_at_call 54; refine (callsIn_wide.2 (lengths_any n A L c _)).mono ?_; rintro e w1 ⟨rfl, rfl⟩)
  obtain ⟨w3, hw3⟩ : ∃ w3, w3 = (((((w.alloc (.cells #[.int .i64 (n : Int), .slice A L c] 28)).alloc (.cells #[.int .i64 f, .int .i64 t, .int .i64 m] 30)).alloc (.cells #[.slice none 0 0] 22)).alloc (.cells #[.bool false] 4)).alloc (.cells #[.slice none 0 0] 80)).alloc (.cells #[.int .i64 (n : Int), .slice A L c] 28) := ⟨_, rfl⟩
  rw [← hw3]
  have z3 : w3.heap.size = w.heap.size + 6 := by rw [hw3]; simp
  have st : ∀ lo, Sh w bs n L c A f t m 0 lo w3 (.slice none 0 0) [] := fun lo => by
    subst hw3
    refine ⟨⟨?_, by omega, ?_, ?_⟩, ?_, ?_, ?_, ⟨rfl, .inl ⟨rfl, rfl⟩⟩, rfl, fun j s hj => by simp at hj, fun j hj => absurd hj (by omega), fun g hg => by simp [Value.ownBlock] at hg⟩
    · exact keep_alloc (keep_alloc (keep_alloc (keep_alloc (keep_alloc (below_alloc _ _) _) _) _) _) _
    · exact (((((Row.made _ _ _).later _).later _).later _).later _).later _
    · exact ((((Row.made_at _ _ _ (by simp)).later _).later _).later _).later _
    · exact (((Row.made_at _ _ _ (by simp)).later _).later _).later _
    · exact ((Row.made_at _ _ _ (by simp)).later _).later _
    · exact (Row.made_at _ _ _ (by simp)).later _
  have rB : Row w3 (w.heap.size + 1 + 1 + 1 + 1 + 1) 28 #[.int .i64 (n : Int), .slice A L c] := by rw [hw3]; exact Row.made_at _ _ _ (by simp)
  have hands := lengths_hands (m' - 1) n bs A c (w.heap.size + 1 + 1 + 1 + 1 + 1) (OwnS w.heap.size) (by omega) hn HO.out (by rw [← HLL.out]; exact h60) w3 (by rw [← HLL.out]; exact rB) (by unfold OwnS; omega) w.heap.size (by omega) (HR.out.below (st 0).base.below) (fun b hb e => by unfold OwnS at e; omega)
  have ST := Lib.hid st
  clear hw3 st rB
  obtain ⟨i0, hi, hz0, hz1, hz2⟩ := info_parts tab_info
  refine range_some rfl hm1 rfl trivial (enters_of Try.func59 (by kernel_rfl) rfl) (fun s => rfl) hands
    (fun k lo z s X Y h q => h.quiet q) (fun k lo s X Y Z q h => h.before q) (fun k lo s X Y Z h q => h.behind q)
    (fun k lo z X => ∃ v ss, Sh w bs n L c A f t m k lo X v ss) (fun X => ∃ k g cap, Sx w bs n L c A f t m X k g cap)
    (fun k lo z X Y h q => by obtain ⟨v, ss, h⟩ := h; exact ⟨v, ss, h.quiet q (by omega)⟩)
    (fun _ _ _ _ _ h _ => h) (fun X Y h q => by obtain ⟨k, g, cap, h⟩ := h; exact ⟨k, g, cap, h.quiet q (by omega)⟩) (fun lo => ⟨_, _, ST.out lo⟩) ?round ?done ?stop
  case round =>
    clear ST hands
    intro l0 k lo z s W T hl hlW hI hG hk hT
    unfold tblV
    gi_wp2
    refine hT _ _ hI hG (grown_refl _) ?_
    intro W₂ hI2 hG2 _
    obtain ⟨v, ss, h2⟩ := hI2
    obtain ⟨_, hlo, htb⟩ := hG2
    clear hI hG hT
    obtain ⟨SA, sc, rfl, hlots⟩ := own_lots h2.own h2.len
    obtain ⟨f, rfl⟩ := Int.eq_ofNat_of_zero_le hf.1
    obtain ⟨t, rfl⟩ := Int.eq_ofNat_of_zero_le ht.1
    have f2 : f < n := by omega
    have t2 : t < n := by omega
    obtain ⟨x0, x1, x2, _, _, _⟩ := h2.base.x.three
    have c1 := htb.cell f2
    have c2 := htb.val f2 t2
    obtain ⟨V, hV⟩ : ∃ V, V = tb bs k (f : Int) (t : Int) := ⟨_, rfl⟩
    rw [← hV] at c2
    have HV := Lib.hid hV; have H2 := Lib.hid h2; have HT := Lib.hid htb; have HLO := Lib.hid hlots
    clear hV h2 htb hlots
    gi_upto_region 4 with (fail)
    refine wpIn_round_quiet rfl (by kernel_rfl) (by kernel_rfl) (by kernel_rfl) ?_
    repeat (quiet_step_in (fail))
    refine wpQuietIn_nil ?_
    intro _ hw'
    obtain ⟨nq, hw''⟩ := hw'
    subst hw''
    have q2 : Quiet1 w.heap.size W₂ (W₂.drewN nq) := .of_none ⟨rfl, rfl, rfl, Nat.le_refl _, fun _ _ _ => rfl⟩
    obtain ⟨X, hX⟩ : ∃ X, X = W₂.drewN nq := ⟨_, rfl⟩
    rw [← hX] at q2 ⊢
    have hsame : X.heap = W₂.heap := by rw [hX]; rfl
    have h3 := H2.out.quiet q2 (Nat.le_refl _)
    have ht3 := q2.tbl HT.out
    have hl3 : Lots X X.heap.size SA n ss := by
      have e : X.heap.size = W₂.heap.size := by rw [hsame]
      rw [e]; exact HLO.out.keep (fun i _ => by rw [hsame])
    have hlX : lo ≤ X.heap.size := by have := ht3.inside; omega
    obtain ⟨b0, b1, _, _⟩ := h3.base.b.two
    obtain ⟨y0, y1, y2, _, _, _⟩ := h3.base.x.three
    have l0' := h3.lb.at (i := 0) rfl
    have H3 := Lib.hid h3; have HT3 := Lib.hid ht3; have HL3 := Lib.hid hl3; have HS := Lib.hid hsame; have HQ := Lib.hid (show Quiet1 (w.heap.size + 6) W₂ X by rw [hX]; exact .of_none ⟨rfl, rfl, rfl, Nat.le_refl _, fun _ _ _ => rfl⟩)
    clear h3 ht3 hl3 hsame q2 hX x0 x1 x2 c1 c2
    by_cases hle : V ≤ m
    · have hfst : Fst bs ss.length (f : Int) (t : Int) m := by
        rw [H3.out.len]
        exact ⟨by rw [← HV.out]; exact hle, H3.out.no⟩
      have hk17 : k ≤ n := by omega
      have hsm : Sm ss.length m := by rw [H3.out.len]; unfold Sm; omega
      have hfo := follow_any n bs A SA c sc ss (f : Int) (t : Int) m hn HO.out (by rw [← HLL.out]; exact h60) (by rw [H3.out.len]; omega) ⟨by omega, by omega⟩ X (HR.out.deep H3.out.base.below) HL3.out H3.out.tbl hfst hsm
      rw [← HLL.out, H3.out.len] at hfo
      rw [H3.out.len] at hfst
      unfold btw bnd at hfo
      dsimp only at hfo
      have hsz := H3.out.base.size
      have HFO := Lib.hid hfo; have HFS := Lib.hid hfst
      clear hfo hfst hsm
      gi_wp2_with (refine ⟨trivial, fun _ => (by omega), ?_⟩; gi_at_call 55; refine (CallsIn.inRound l0 (callsIn_wide.2 HFO.out)).mono ?_; rintro e w4 ⟨g, cap, rfl, ho4, hb4⟩; have h4 := H3.out.quiet (.of_none (grown_of_below hb4 (Nat.le_refl _))) (Nat.le_refl _); have HO4 := Lib.hid ho4; have HB4 := Lib.hid hb4; have a0 := h4.r0.at (i := 0) rfl; have a1 := h4.r0.free 0; have a2 := (h4.r1.aside (p := ⟨w.heap.size + 1 + 1, 0, none⟩) (by show w.heap.size + 1 + 1 ≠ w.heap.size + 1 + 1 + 1; omega) (.slice (some ⟨g, 0, none⟩) k cap)).at (i := 0) rfl; have a3 := h4.r1.free 0; have H4 := Lib.hid h4; clear ho4 hb4 h4)
      have o5 : w4.ownsRow w.heap.size 3 1 (.slice (some ⟨g, 0, none⟩) k cap) k (natV (folL bs k f t m)) := own_less HO4.out (by omega)
      have o6 := o5.kept (grownBy_setCell' w4 (w.heap.size + 1 + 1) (.slice (some ⟨g, 0, none⟩) k cap)) (.inr (fun e => own_row o5 H4.out.r0 (by decide) e.symm))
      have g4 := H4.out.r1.aside (p := ⟨w.heap.size + 1 + 1, 0, none⟩) (by show w.heap.size + 1 + 1 ≠ w.heap.size + 1 + 1 + 1; omega) (.slice (some ⟨g, 0, none⟩) k cap)
      have o7 := o6.kept (grownBy_setCell' _ (w.heap.size + 1 + 1 + 1) (.bool true)) (.inr (fun e => own_row o6 g4 (by decide) e.symm))
      have hs4 := H4.out.base.size
      refine ⟨⟨k, g, cap, ⟨⟨?_, by simp; omega, ?_, ?_⟩, ?_, g4.stored 0 _, o7, hk17, HFS.out⟩⟩, fun l' o' hl' ho hc => ?_⟩
      · exact (H4.out.base.below.setCell (p := ⟨w.heap.size + 1 + 1, 0, none⟩) (by show w.heap.size ≤ w.heap.size + 1 + 1; omega) _).setCell (p := ⟨w.heap.size + 1 + 1 + 1, 0, none⟩) (by show w.heap.size ≤ w.heap.size + 1 + 1 + 1; omega) _
      · exact (H4.out.base.b.aside (p := ⟨w.heap.size + 1 + 1, 0, none⟩) (by show w.heap.size + 1 + 1 ≠ w.heap.size; omega) _).aside (p := ⟨w.heap.size + 1 + 1 + 1, 0, none⟩) (by show w.heap.size + 1 + 1 + 1 ≠ w.heap.size; omega) _
      · exact (H4.out.base.x.aside (p := ⟨w.heap.size + 1 + 1, 0, none⟩) (by show w.heap.size + 1 + 1 ≠ w.heap.size + 1; omega) _).aside (p := ⟨w.heap.size + 1 + 1 + 1, 0, none⟩) (by show w.heap.size + 1 + 1 + 1 ≠ w.heap.size + 1; omega) _
      · exact (H4.out.r0.stored 0 _).aside (p := ⟨w.heap.size + 1 + 1 + 1, 0, none⟩) (by show w.heap.size + 1 + 1 + 1 ≠ w.heap.size + 1 + 1; omega) _
      · have hlx : l' < X.heap.size := by rw [HS.out]; exact (Array.getElem?_eq_some_iff.1 ho).1
        rw [heap_setCell_other _ ⟨w.heap.size + 1 + 1 + 1, 0, none⟩ l' _ (by show l' ≠ w.heap.size + 1 + 1 + 1; omega), heap_setCell_other _ ⟨w.heap.size + 1 + 1, 0, none⟩ l' _ (by show l' ≠ w.heap.size + 1 + 1; omega), HB4.out.block l' hlx, HS.out]
        exact ho
    · have hno : m < tb bs k (f : Int) (t : Int) := by rw [← HV.out]; omega
      have hsz := H3.out.base.size
      have HNO := Lib.hid hno
      have hkn : k ≤ n := by omega
      clear hno
      gi_wp2_with (gi_at_builtin; refine wpListIn_append_own_at _ rfl _ _ 80 rfl (w.heap.size + 6) 63 i0 (.slice none 0 0) 1 24 Try.underlying80 hi hz0 hz1 hz2 rfl (by decide) _ _ _ rfl (H3.out.own.alloc _) ⟨X.heap.size, 0, none⟩ 1 1 [.slice (some ⟨s, 0, none⟩) n n] rfl rfl (cell_one_new _ _ _) (by simp [Value.oneCell']) (by unfold maxLen; omega) (by omega) (by simp; omega) ?_; intro v' w5 own5 hg5 hn5 hb5; obtain ⟨g', cap', rfl⟩ := ownsRow_succ own5; obtain ⟨lb5, hS, hK, hN⟩ := H3.out.put hg5 own5 hb5 HT3.out hlX HNO.out _ rfl; have HS5 := Lib.hid hS; have HK5 := Lib.hid hK; have HN5 := Lib.hid hN; have l5 := lb5.at (i := 0) rfl; have l5f := lb5.free 0; clear hS hK hN lb5 own5 hg5 hn5 hb5)
      exact ⟨⟨_, _, HS5.out⟩, HK5.out.before HQ.out, fun l' o' _ ho hc => HN5.out l' o' (by rw [HS.out]; exact ho) hc⟩
  case done =>
    intro D lo z W hD hI hK
    obtain ⟨v, ss, h⟩ := hI
    have hno := h.no
    have c4 := h.r0.at (i := 0) rfl
    have f4 := h.r0.free 0
    have g5 := h.r1.aside (p := ⟨w.heap.size + 1 + 1, 0, none⟩) (by show w.heap.size + 1 + 1 ≠ w.heap.size + 1 + 1 + 1; omega) (.slice none 0 0)
    have c5 := g5.at (i := 0) rfl
    have f5 := h.r1.free 0
    have r0 : Row ((W.setCell ⟨w.heap.size + 1 + 1, 0, none⟩ (.slice none 0 0)).setCell ⟨w.heap.size + 1 + 1 + 1, 0, none⟩ (.bool false)) (w.heap.size + 1 + 1) 22 #[.slice none 0 0] := (h.r0.stored 0 _).aside (p := ⟨w.heap.size + 1 + 1 + 1, 0, none⟩) (by show w.heap.size + 1 + 1 + 1 ≠ w.heap.size + 1 + 1; omega) _
    have r1 : Row ((W.setCell ⟨w.heap.size + 1 + 1, 0, none⟩ (.slice none 0 0)).setCell ⟨w.heap.size + 1 + 1 + 1, 0, none⟩ (.bool false)) (w.heap.size + 1 + 1 + 1) 4 #[.bool false] := g5.stored 0 _
    have bb : Below w.heap.size w ((W.setCell ⟨w.heap.size + 1 + 1, 0, none⟩ (.slice none 0 0)).setCell ⟨w.heap.size + 1 + 1 + 1, 0, none⟩ (.bool false)) := (h.base.below.setCell (p := ⟨w.heap.size + 1 + 1, 0, none⟩) (by show w.heap.size ≤ w.heap.size + 1 + 1; omega) _).setCell (p := ⟨w.heap.size + 1 + 1 + 1, 0, none⟩) (by show w.heap.size ≤ w.heap.size + 1 + 1 + 1; omega) _
    have hsz : w.heap.size ≤ W.heap.size := by have := h.base.size; omega
    have hK2 : ((W.setCell ⟨w.heap.size + 1 + 1, 0, none⟩ (.slice none 0 0)).setCell ⟨w.heap.size + 1 + 1 + 1, 0, none⟩ (.bool false)).heap[D]? = some (.deferred (some [])) := by
      rw [heap_setCell_other _ ⟨w.heap.size + 1 + 1 + 1, 0, none⟩ D _ (by show D ≠ w.heap.size + 1 + 1 + 1; omega), heap_setCell_other _ ⟨w.heap.size + 1 + 1, 0, none⟩ D _ (by show D ≠ w.heap.size + 1 + 1; omega)]; exact hK
    have HN := Lib.hid hno; have R0 := Lib.hid r0; have R1 := Lib.hid r1; have BB := Lib.hid bb; have HK2 := Lib.hid hK2
    clear h hno r0 r1 bb hK2 hK g5
    gi_wp2
    refine ⟨by simp, .inl ⟨_, _, rfl, run_takeDeferred HK2.out, ?_⟩⟩
    obtain ⟨Y, hY⟩ : ∃ Y, Y = (W.setCell ⟨w.heap.size + 1 + 1, 0, none⟩ (.slice none 0 0)).setCell ⟨w.heap.size + 1 + 1 + 1, 0, none⟩ (.bool false) := ⟨_, rfl⟩
    have q : Quiet1 w.heap.size Y (Y.putObj D (.deferred none)) := Quiet1.put (by rw [hY]; exact HK2.out) (by omega) rfl
    rw [← hY] at R0 R1 BB ⊢
    have d0 := (q.row R0.out).at (i := 0) rfl
    have d1 := (q.row R1.out).at (i := 0) rfl
    exact ⟨.tuple #[.slice none 0 0, .bool false], by simp [results, Try.results43, go_sem, d0, d1], .inr ⟨fun j hj => HN.out j (by omega), rfl, q.below BB.out (Nat.le_refl _) (by rw [hY]; simpa using hsz)⟩⟩
  case stop =>
    intro D W hD hI hK
    obtain ⟨k, g, cap, h⟩ := hI
    have H := Lib.hid h; have HK := Lib.hid hK
    clear h hK
    gi_wp2
    refine ⟨by simp, .inl ⟨_, _, rfl, run_takeDeferred HK.out, ?_⟩⟩
    have q : Quiet1 w.heap.size W (W.putObj D (.deferred none)) := Quiet1.put HK.out (by omega) rfl
    have h' := H.out.quiet q (Nat.le_refl _)
    have d0 := h'.r0.at (i := 0) rfl
    have d1 := h'.r1.at (i := 0) rfl
    exact ⟨.tuple #[.slice (some ⟨g, 0, none⟩) k cap, .bool true], by simp [results, Try.results43, go_sem, d0, d1], .inl ⟨k, g, cap, h'.le, h'.fst, rfl, h'.own, h'.base.below⟩⟩
theorem shortest_any (n : Nat) (bs : List Bn) (A : Option Addr) (c : Nat) (f t m : Int) (hn : n ≤ 16) (ho : Okb n bs) (h60 : bs.length ≤ 60) (hf : 0 ≤ f ∧ f < n) (ht : 0 ≤ t ∧ t < n) (hmm : -1000000000 ≤ m ∧ m ≤ 1000000000) (w : World) (hr : Rds w w.heap.size A bs) :
    Calls Try.prog 43 #[btw n A bs.length c, bnd (f, t, m)] w (ShPost w bs n f t m) :=
  callsIn_wide.1 (shortest_in 9 n bs A c f t m (by omega) hn ho h60 hf ht hmm w hr)
end
end Go.Proofs.Ytkeimfkaoianmaa
