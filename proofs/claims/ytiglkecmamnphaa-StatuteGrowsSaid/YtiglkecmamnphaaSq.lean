/- What the calls of sane answer: the chapter's examples. -/
import Derived.Test.YtiglkecmamnphaaEx
import Derived.Test.YtiglkecmamnphaaSi
import Derived.Test.YtiglkecmamnphaaUm
namespace Go.Proofs.Ytiglkecmamnphaa
open Go.RowKit Go.Sort Go.Lib

/-- The repeal that sane adds. -/
theorem bk_repealed {W : World} {cv fv : Value} {g : Nat} (h : BkV W W.heap.size cv nilS fv exB0) (hr : Row W g 55 #[.int .i64 0, .int .i64 350, .int .i64 300]) : BkV W W.heap.size cv (.slice (some ⟨g, 0, none⟩) 1 1) fv exB1 :=
  ⟨h.1, ⟨some ⟨g, 0, none⟩, 1, rfl, by decide, .inr ⟨g, 0, rfl, hr.inside, fun i C hC j v hv => by
    cases i with
    | succ i => simp [exB1] at hC
    | zero =>
      have : C = rplC ⟨0, 350, 300⟩ := by simpa [exB1] using hC.symm
      subst this
      rw [show 0 + 0 * 3 + j = j by omega]
      exact hr.at hv⟩⟩, h.2.2⟩
abbrev qV (a b c d : Int) : Value := .agg #[.int .i64 a, .int .i64 b, .int .i64 c, .int .i64 d]
abbrev rT (a : Bool) (A : Option Addr) (n c : Nat) : Value := .tuple #[.bool a, .slice A n c, .int .i64 0]
/-- Decide at rules of which it is known what it says, and in which one way. -/
theorem dec_at (b : Bk) (q : Qn) (a : Bool) (l : List Fd) (n : Nat) (hn : l.length = n) (hv : validB b = true) (hq : asksB q = true) (ha : soB b q q.says = a) (hs : ∀ m, Slim b q q.says m → m = l) (cv rv fv : Value) (W : World) (h : BkV W W.heap.size cv rv fv b) :
    Calls Try.prog 12 #[.agg #[cv, rv, fv], qV q.thing q.says q.time q.known] W fun e w' => ∃ A c, e = .returned (rT a A n c) ∧ (FdsC w' A l ∧ n ≤ c) ∧ Below W.heap.size W w' :=
  (decide_yes b q cv rv fv W h (bki_of hv) hv hq).mono fun e w' ⟨A, c, m, he, hm, ho, hb⟩ => by
    have := hs m hm
    subst this
    rw [ha] at he
    subst hn
    exact ⟨A, c, he, ⟨own_fds rfl ho, own_cap ho⟩, hb⟩
/-- .. and of which it is known what it says. -/
theorem dec_any (b : Bk) (q : Qn) (a : Bool) (hv : validB b = true) (hq : asksB q = true) (ha : soB b q q.says = a) (cv rv fv : Value) (W : World) (h : BkV W W.heap.size cv rv fv b) :
    Calls Try.prog 12 #[.agg #[cv, rv, fv], qV q.thing q.says q.time q.known] W fun e w' => ∃ A n c, e = .returned (rT a A n c) ∧ Below W.heap.size W w' :=
  (decide_yes b q cv rv fv W h (bki_of hv) hv hq).mono fun e w' ⟨A, c, m, he, _, _, hb⟩ => by
    rw [ha] at he
    exact ⟨A, _, c, he, hb⟩
section
variable {cv fv rv : Value} {W : World}
theorem s_first (h : BkV W W.heap.size cv nilS fv exB0) : Calls Try.prog 12 #[.agg #[cv, nilS, fv], qV 7 3 400 400] W fun e w' => ∃ A c, e = .returned (rT true A 3 c) ∧ (FdsC w' A exF ∧ 3 ≤ c) ∧ Below W.heap.size W w' :=
  dec_at exB0 ⟨7, 3, 400, 400⟩ true exF 3 rfl exB0_valid (by decide +kernel) ex_so.1 (fun _ h => slim_first h) cv nilS fv W h
theorem s_second (h : BkV W W.heap.size cv nilS fv exB0) : Calls Try.prog 12 #[.agg #[cv, nilS, fv], qV 7 3 700 650] W fun e w' => ∃ A c, e = .returned (rT false A 3 c) ∧ (FdsC w' A exS ∧ 3 ≤ c) ∧ Below W.heap.size W w' :=
  dec_at exB0 ⟨7, 3, 700, 650⟩ false exS 3 rfl exB0_valid (by decide +kernel) ex_so.2.1 (fun _ h => slim_second h) cv nilS fv W h
theorem s_third (h : BkV W W.heap.size cv nilS fv exB0) : Calls Try.prog 12 #[.agg #[cv, nilS, fv], qV 7 3 700 550] W fun e w' => ∃ A n c, e = .returned (rT true A n c) ∧ Below W.heap.size W w' :=
  dec_any exB0 ⟨7, 3, 700, 550⟩ true exB0_valid (by decide +kernel) ex_so.2.2.1 cv nilS fv W h
theorem s_fourth (h : BkV W W.heap.size cv nilS fv exB0) : Calls Try.prog 12 #[.agg #[cv, nilS, fv], qV 7 3 199 650] W fun e w' => ∃ A c, e = .returned (rT false A 1 c) ∧ (FdsC w' A [(3, false, -1, -1)] ∧ 1 ≤ c) ∧ Below W.heap.size W w' :=
  dec_at exB0 ⟨7, 3, 199, 650⟩ false [(3, false, -1, -1)] 1 rfl exB0_valid (by decide +kernel) ex_so.2.2.2.1 (fun _ h => slim_third h) cv nilS fv W h
theorem s_fifth (h : BkV W W.heap.size cv nilS fv exB0) : Calls Try.prog 12 #[.agg #[cv, nilS, fv], qV 7 3 400 120] W fun e w' => ∃ A n c, e = .returned (rT false A n c) ∧ Below W.heap.size W w' :=
  dec_any exB0 ⟨7, 3, 400, 120⟩ false exB0_valid (by decide +kernel) ex_so.2.2.2.2.1 cv nilS fv W h
theorem s_sixth (h : BkV W W.heap.size cv rv fv exB1) : Calls Try.prog 12 #[.agg #[cv, rv, fv], qV 7 3 400 400] W fun e w' => ∃ A n c, e = .returned (rT false A n c) ∧ Below W.heap.size W w' :=
  dec_any exB1 ⟨7, 3, 400, 400⟩ false exB1_valid (by decide +kernel) ex_so.2.2.2.2.2 cv rv fv W h
theorem s_uses {A : Option Addr} {c : Nat} (h : BkV W W.heap.size cv nilS fv exB0) (hl : FdsC W A exS ∧ 3 ≤ c) : Calls Try.prog 18 #[.agg #[cv, nilS, fv], qV 7 3 700 650, .slice A 3 c] W fun e w' => ∃ av bv, e = .returned (twoR av bv 0) ∧ IntsV w' w'.heap.size av [1] ∧ IntsV w' w'.heap.size bv [0, 1] ∧ Below W.heap.size W w' := by
  have h1 : usesL exB0 ⟨7, 3, 700, 650⟩ exS = ([1], [0, 1]) := by
    obtain ⟨u1, u2⟩ := uses_up exB0 ⟨7, 3, 700, 650⟩ (by decide) exS
    obtain ⟨m1, m2⟩ := uses_mem exB0 ⟨7, 3, 700, 650⟩ exS
    have c1 : sC exB0 ⟨7, 3, 700, 650⟩ 1 = [] := by decide +kernel
    have c3 : sC exB0 ⟨7, 3, 700, 650⟩ 3 = [0, 1] := by decide +kernel
    refine Prod.ext (up_ext u1 (by unfold Up; decide) fun y => ?_) (up_ext u2 (by unfold Up; decide) fun y => ?_)
    · rw [m1]; simp [exS]
    · rw [m2]; simp [exS, c1, c3]
  have := uses_yes exB0 ⟨7, 3, 700, 650⟩ exS A c (by decide) hl.2 cv nilS fv W h (bki_of exB0_valid) hl.1 exB0_valid (by decide +kernel) (by decide +kernel)
  rw [h1] at this
  exact this
theorem s_applies (h : BkV W W.heap.size cv nilS fv exB0) : Calls Try.prog 22 #[.agg #[cv, nilS, fv], qV 7 3 400 400] W fun e w' => ∃ av bv, e = .returned (twoR av bv 0) ∧ IntsV w' w'.heap.size av [0] ∧ IntsV w' w'.heap.size bv [0, 1] ∧ Below W.heap.size W w' := by
  have h1 : aF exB0 ⟨7, 3, 400, 400⟩ = [0] ∧ aC exB0 ⟨7, 3, 400, 400⟩ = [0, 1] := by decide +kernel
  have := applies_yes exB0 ⟨7, 3, 400, 400⟩ cv nilS fv W h (bki_of exB0_valid) exB0_valid (by decide +kernel)
  rw [h1.1, h1.2] at this
  exact this
theorem s_check (q : Qn) (a : Bool) (l : List Fd) (n c : Nat) (A : Option Addr) (r : Bool) (hn : l.length = n) (hr : checkB exB0 q a l = r) (h : BkV W W.heap.size cv nilS fv exB0) (hl : FdsC W A l) (hc : n ≤ c) (h9 : n ≤ 100) :
    Calls Try.prog 13 #[.agg #[cv, nilS, fv], qV q.thing q.says q.time q.known, .bool a, .slice A n c] W fun e w' => e = .returned (.bool r) ∧ Below W.heap.size W w' := by
  subst hn
  have := check_any exB0 q a l A c (by show _ ≤ 9223372036854775807; omega) hc cv nilS fv W h (bki_of exB0_valid) hl
  rw [hr] at this
  exact this
theorem s_check1 {A : Option Addr} (h : BkV W W.heap.size cv nilS fv exB0) (hl : FdsC W A exF) : Calls Try.prog 13 #[.agg #[cv, nilS, fv], qV 7 3 400 400, .bool true, .slice A 3 3] W fun e w' => e = .returned (.bool true) ∧ Below W.heap.size W w' := s_check ⟨7, 3, 400, 400⟩ true exF 3 3 A true rfl ex_check.1 h hl (by omega) (by omega)
theorem s_check2 {A : Option Addr} (h : BkV W W.heap.size cv nilS fv exB0) (hl : FdsC W A exF) : Calls Try.prog 13 #[.agg #[cv, nilS, fv], qV 7 3 400 400, .bool false, .slice A 3 3] W fun e w' => e = .returned (.bool false) ∧ Below W.heap.size W w' := s_check ⟨7, 3, 400, 400⟩ false exF 3 3 A false rfl ex_check.2.1 h hl (by omega) (by omega)
theorem s_check3 {A : Option Addr} (h : BkV W W.heap.size cv nilS fv exB0) (hl : FdsC W A exF) : Calls Try.prog 13 #[.agg #[cv, nilS, fv], qV 7 3 700 650, .bool true, .slice A 3 3] W fun e w' => e = .returned (.bool false) ∧ Below W.heap.size W w' := s_check ⟨7, 3, 700, 650⟩ true exF 3 3 A false rfl ex_check.2.2.1 h hl (by omega) (by omega)
theorem s_check4 {A : Option Addr} (h : BkV W W.heap.size cv nilS fv exB0) (hl : FdsC W A exS) : Calls Try.prog 13 #[.agg #[cv, nilS, fv], qV 7 3 700 650, .bool false, .slice A 3 3] W fun e w' => e = .returned (.bool true) ∧ Below W.heap.size W w' := s_check ⟨7, 3, 700, 650⟩ false exS 3 3 A true rfl ex_check.2.2.2 h hl (by omega) (by omega)
theorem s_valid1 (h : BkV W W.heap.size cv nilS fv exB0) : Calls Try.prog 25 #[.agg #[cv, nilS, fv]] W fun e w' => e = .returned (.bool true) ∧ Below W.heap.size W w' := by
  have := valid_any exB0 cv nilS fv W h (bki_of exB0_valid).1 (bki_of exB0_valid).2
  rw [exB0_valid] at this
  exact this
/-- Rules with one clause of zeros are not valid. -/
theorem s_valid2 {g : Nat} (hr : Row W g 51 #[.int .i64 0, .int .i64 0, .int .i64 0, .slice none 0 0, .slice none 0 0, .int .i64 0]) : Calls Try.prog 25 #[.agg #[.slice (some ⟨g, 0, none⟩) 1 1, nilS, nilS]] W fun e w' => e = .returned (.bool false) ∧ Below W.heap.size W w' := by
  have hb : BkV W W.heap.size (.slice (some ⟨g, 0, none⟩) 1 1) nilS nilS ⟨[⟨0, 0, 0, [], [], 0⟩], [], []⟩ :=
    ⟨⟨some ⟨g, 0, none⟩, 1, rfl, by decide, .inr ⟨g, 0, rfl, hr.inside, fun i x hx => by
      cases i with
      | succ i => simp at hx
      | zero =>
        cases hx
        refine ⟨nilS, nilS, IntsV.nil _ _, IntsV.nil _ _, fun j v hv => ?_⟩
        rw [show 0 + 0 * 6 + j = j by omega]
        exact hr.at hv⟩⟩, ⟨none, 0, rfl, by decide, .inl rfl⟩, ⟨none, 0, rfl, by decide, .inl rfl⟩⟩
  have := valid_any ⟨[⟨0, 0, 0, [], [], 0⟩], [], []⟩ _ _ _ W hb (fun c hc => by simp at hc; subst hc; exact ⟨by decide, by decide⟩) (fun f hf => by cases hf)
  rw [show validB ⟨[⟨0, 0, 0, [], [], 0⟩], [], []⟩ = false by decide +kernel] at this
  exact this
theorem s_asks1 : Calls Try.prog 26 #[qV 7 3 400 400] W fun e w' => e = .returned (.bool true) ∧ Below W.heap.size W w' := by
  have := asks_any ⟨7, 3, 400, 400⟩ W
  rw [show asksB ⟨7, 3, 400, 400⟩ = true by decide +kernel] at this
  exact this
theorem s_asks2 : Calls Try.prog 26 #[qV 0 0 (-1) 0] W fun e w' => e = .returned (.bool false) ∧ Below W.heap.size W w' := by
  have := asks_any ⟨0, 0, -1, 0⟩ W
  rw [show asksB ⟨0, 0, -1, 0⟩ = false by decide +kernel] at this
  exact this
theorem s_same3 {A B : Option Addr} {c c' : Nat} {l : List Fd} (hl : l.length = 3) (h1 : FdsC W A l) (h2 : FdsC W B l) : Calls Try.prog 23 #[.slice A 3 c, .slice B 3 c'] W fun e w' => e = .returned (.bool true) ∧ Below W.heap.size W w' := by
  have := same_same l A B c c' (by omega) W h1 h2
  rw [hl] at this
  exact this
theorem s_same1 {A B : Option Addr} {c c' : Nat} {l : List Fd} (hl : l.length = 1) (h1 : FdsC W A l) (h2 : FdsC W B l) : Calls Try.prog 23 #[.slice A 1 c, .slice B 1 c'] W fun e w' => e = .returned (.bool true) ∧ Below W.heap.size W w' := by
  have := same_same l A B c c' (by omega) W h1 h2
  rw [hl] at this
  exact this
end
/-- A literal row of findings. -/
theorem fds_lit (W : World) (l : List Fd) (hl : l.length ≤ maxLen) : FdsC (W.alloc (.cells (flatF l).toArray 63)) (some ⟨W.heap.size, 0, none⟩) l :=
  own_fds (cap := l.length) rfl (by
    have := World.ownsRow_lit (base := 0) (e := 63) (size := 4) W (flatF l).toArray l.length (Nat.zero_le _) hl (by simpa using flatF_len l)
    exact this)
theorem ints_lit (W : World) (l : List Int) (hl : l.length ≤ maxLen) : IntsV (W.alloc (.cells (iC l).toArray 3)) (W.alloc (.cells (iC l).toArray 3)).heap.size (.slice (some ⟨W.heap.size, 0, none⟩) l.length l.length) l :=
  own_V (World.ownsRow_lit (base := 0) (e := 3) (size := 1) W (iC l).toArray l.length (Nat.zero_le _) hl (by simp)) (by unfold maxLen at hl; show _ ≤ 9223372036854775807; omega)
theorem s_same_lit {A : Option Addr} {c : Nat} (W : World) (h : FdsC W A [(3, false, -1, -1)]) : Calls Try.prog 23 #[.slice A 1 c, .slice (some ⟨W.heap.size, 0, none⟩) 1 1] (W.alloc (.cells #[.int .i64 3, .bool false, .int .i64 (-1), .int .i64 (-1)] 63)) fun e w' => e = .returned (.bool true) ∧ Below W.heap.size W w' :=
  (s_same1 (l := [(3, false, -1, -1)]) rfl (h.deep (below_alloc _ _)) (fds_lit W [(3, false, -1, -1)] (by decide))).mono fun e w' h => ⟨h.1, below_step (below_alloc _ _) h.2⟩
theorem s_ints1 (W : World) (x : Int) (u : Value) (h : IntsV W W.heap.size u [x]) : Calls Try.prog 24 #[u, .slice (some ⟨W.heap.size, 0, none⟩) 1 1] (W.alloc (.cells #[.int .i64 x] 3)) fun e w' => e = .returned (.bool true) ∧ Below W.heap.size W w' :=
  (ints_same [x] _ _ _ (h.deep (below_alloc _ _)) (ints_lit W [x] (by unfold maxLen; simp))).mono fun e w' h => ⟨h.1, below_step (below_alloc _ _) h.2⟩
theorem s_ints2 (W : World) (x y : Int) (u : Value) (h : IntsV W W.heap.size u [x, y]) : Calls Try.prog 24 #[u, .slice (some ⟨W.heap.size, 0, none⟩) 2 2] (W.alloc (.cells #[.int .i64 x, .int .i64 y] 3)) fun e w' => e = .returned (.bool true) ∧ Below W.heap.size W w' :=
  (ints_same [x, y] _ _ _ (h.deep (below_alloc _ _)) (ints_lit W [x, y] (by unfold maxLen; simp))).mono fun e w' h => ⟨h.1, below_step (below_alloc _ _) h.2⟩
end Go.Proofs.Ytiglkecmamnphaa
