/- Made: its plain facts; proofs of which nothing can be left out, all of them. -/
import Derived.Test.YtiglkecmamnphaaOw
namespace Go.Proofs.Ytiglkecmamnphaa
open Go.RowKit Go.Sort Go.Lib

abbrev Six := Int × Int × Int × Int × Int × Int
abbrev Tri := Int × Int × Int
def sixL (y : Six) : List Value := [.int .i64 y.1, .int .i64 y.2.1, .int .i64 y.2.2.1, .int .i64 y.2.2.2.1, .int .i64 y.2.2.2.2.1, .int .i64 y.2.2.2.2.2]
def triL (y : Tri) : List Value := [.int .i64 y.1, .int .i64 y.2.1, .int .i64 y.2.2]
def clsI (y : Six) : Cls := ⟨pk y.1 80, (partI y.2.1 y.2.2.1).1, (partI y.2.1 y.2.2.1).2, bitsK y.2.2.2.2.1 (pk y.2.2.2.1 8).toNat, bitsK y.2.2.2.2.2 (pk y.2.2.2.1 8).toNat, pk y.2.2.2.1 8⟩
def rplI (n : Int) (y : Tri) : Rpl := ⟨pk y.1 n, pk y.2.1 100, pk y.2.2 100⟩
def fctI (y : Six) : Fct := ⟨pk y.1 3, pk y.2.1 6, (partI y.2.2.1 y.2.2.2.1).1, (partI y.2.2.1 y.2.2.2.1).2, (partI y.2.2.2.2.1 y.2.2.2.2.2).1, (partI y.2.2.2.2.1 y.2.2.2.2.2).2⟩
def madeB (C : List Six) (R : List Tri) (F : List Six) : Bk := ⟨(C.take 8).map clsI, if C = [] then [] else (R.take 3).map (rplI ((min 8 C.length : Nat) : Int)), (F.take 8).map fctI⟩

theorem bits_up (c : Int) (k : Nat) : Up (bitsK c k) ∧ ∀ n ∈ bitsK c k, 0 ≤ n ∧ n < (k : Int) := by
  unfold bitsK
  refine ⟨?_, fun n hn => ?_⟩
  · have h := up_filter (range_up k) (fun i => bitB c i.toNat)
    have e : ((List.range k).map Int.ofNat).filter (fun i => bitB c i.toNat) = ((List.range k).filter (bitB c)).map Int.ofNat := by
      rw [List.filter_map]
      congr 1
    rw [e] at h
    rw [List.map_take]
    exact List.Pairwise.sublist (List.take_sublist _ _) h
  · obtain ⟨i, hi, rfl⟩ := List.mem_map.1 hn
    have := List.mem_range.1 (List.mem_filter.1 (List.mem_of_mem_take hi)).1
    exact ⟨Int.natCast_nonneg _, by show (i : Int) < (k : Int); omega⟩
theorem termsL_of {g : Int} : ∀ {l : List Int} {last : Int}, Up l → (∀ n ∈ l, last < n ∧ n < g) → termsL g last l = true
  | [], _, _, _ => rfl
  | n :: l, last, hu, h => by
    have h0 := h n (List.mem_cons_self ..)
    have hu' := List.pairwise_cons.1 hu
    simp only [termsL, Bool.and_eq_true, decide_eq_true_eq]
    exact ⟨⟨h0.1, h0.2⟩, termsL_of hu'.2 fun m hm => ⟨hu'.1 m hm, (h m (List.mem_cons_of_mem _ hm)).2⟩⟩
theorem terms_of {l : List Int} {g : Int} (hl : l.length ≤ 4) (hu : Up l) (h : ∀ n ∈ l, 0 ≤ n ∧ n < g) : termsB l g = true := by
  simp only [termsB, Bool.and_eq_true, decide_eq_true_eq]
  exact ⟨hl, termsL_of hu fun n hn => ⟨by have := (h n hn).1; omega, (h n hn).2⟩⟩
theorem part_ok (a b : Int) : 0 ≤ (partI a b).1 ∧ (partI a b).1 < (partI a b).2 ∧ (partI a b).1 ≤ 49 ∧ (partI a b).2 ≤ 99 := by
  have h1 := pk_range (c := a) (n := 50) (by omega)
  have h2 := pk_range (c := b) (n := 50) (by omega)
  unfold partI
  dsimp only
  omega
theorem clsI_ok (y : Six) : clsB (clsI y) = true ∧ (clsI y).needs.length ≤ 3 ∧ (clsI y).bars.length ≤ 3 := by
  have h1 := pk_range (c := y.1) (n := 80) (by omega)
  have h2 := pk_range (c := y.2.2.2.1) (n := 8) (by omega)
  have h3 := part_ok y.2.1 y.2.2.1
  have g : ((pk y.2.2.2.1 8).toNat : Int) = pk y.2.2.2.1 8 := Int.toNat_of_nonneg h2.1
  have hb : ∀ c : Int, termsB (bitsK c (pk y.2.2.2.1 8).toNat) (pk y.2.2.2.1 8) = true := fun c =>
    terms_of (by have := bits_len c (pk y.2.2.2.1 8).toNat; omega) (bits_up _ _).1 fun n hn => by
      have := (bits_up c (pk y.2.2.2.1 8).toNat).2 n hn
      rwa [g] at this
  refine ⟨?_, bits_len _ _, bits_len _ _⟩
  unfold clsB clsI
  dsimp only
  unfold timeB spellB sayB
  simp only [hb, Bool.and_eq_true, decide_eq_true_eq, and_true]
  repeat' apply And.intro
  all_goals omega
theorem rplI_ok {n : Int} (hn : 0 < n) (y : Tri) : rplB n (rplI n y) = true := by
  have h1 := pk_range (c := y.1) hn
  have h2 := pk_range (c := y.2.1) (n := 100) (by omega)
  have h3 := pk_range (c := y.2.2) (n := 100) (by omega)
  unfold rplB rplI
  dsimp only
  unfold timeB
  simp only [Bool.and_eq_true, decide_eq_true_eq]
  repeat' apply And.intro
  all_goals omega
theorem fctI_ok (y : Six) : fctB (fctI y) = true := by
  have h1 := pk_range (c := y.1) (n := 3) (by omega)
  have h2 := pk_range (c := y.2.1) (n := 6) (by omega)
  have h3 := part_ok y.2.2.1 y.2.2.2.1
  have h4 := part_ok y.2.2.2.2.1 y.2.2.2.2.2
  unfold fctB fctI
  dsimp only
  unfold thingB spellB sayB
  simp only [Bool.and_eq_true, decide_eq_true_eq]
  repeat' apply And.intro
  all_goals omega
theorem made_len (C : List Six) (R : List Tri) (F : List Six) : (madeB C R F).cls.length ≤ 8 ∧ (madeB C R F).rpl.length ≤ 3 ∧ (madeB C R F).fct.length ≤ 8 := by
  unfold madeB
  dsimp only
  refine ⟨by simp; omega, ?_, by simp; omega⟩
  split
  · simp
  · simp; omega
theorem made_valid (C : List Six) (R : List Tri) (F : List Six) : validB (madeB C R F) = true := by
  have hl := made_len C R F
  simp only [validB, Bool.and_eq_true, decide_eq_true_eq, List.all_eq_true]
  refine ⟨⟨⟨⟨⟨by omega, by omega⟩, by omega⟩, fun c hc => ?_⟩, fun r hr => ?_⟩, fun f hf => ?_⟩
  · obtain ⟨y, _, rfl⟩ := List.mem_map.1 hc
    exact (clsI_ok y).1
  · unfold madeB at hr ⊢
    dsimp only at hr ⊢
    split at hr
    · cases hr
    · rename_i hC
      obtain ⟨y, _, rfl⟩ := List.mem_map.1 hr
      have h0 : 0 < C.length := List.length_pos_iff.2 hC
      rw [List.length_map, List.length_take]
      exact rplI_ok (by omega) y
  · obtain ⟨y, _, rfl⟩ := List.mem_map.1 hf
    exact fctI_ok y
theorem bki_of {b : Bk} (h : validB b = true) : BkI b := by
  simp only [validB, Bool.and_eq_true, decide_eq_true_eq, List.all_eq_true] at h
  refine ⟨fun c hc => ?_, fun f hf => ?_⟩
  · have := h.1.1.2 c hc
    simp only [clsB, timeB, spellB, sayB, Bool.and_eq_true, decide_eq_true_eq] at this
    omega
  · have := h.2 f hf
    simp only [fctB, thingB, spellB, sayB, Bool.and_eq_true, decide_eq_true_eq] at this
    omega
theorem ask_asks (a b c d : Int) : asksB (askI a b c d) = true := by
  have h1 := pk_range (c := a) (n := 3) (by omega)
  have h2 := pk_range (c := b) (n := 8) (by omega)
  have h3 := pk_range (c := c) (n := 100) (by omega)
  have h4 := pk_range (c := d) (n := 100) (by omega)
  unfold asksB askI
  dsimp only
  unfold thingB sayB timeB
  simp only [Bool.and_eq_true, decide_eq_true_eq]
  repeat' apply And.intro
  all_goals omega

/-- All proofs of which nothing can be left out. -/
def slimB (b : Bk) (q : Qn) (n : Int) (l : List Fd) : Bool := provesB b q l n && (List.range l.length).all fun i => !provesB b q (l.take i ++ l.drop (i + 1)) n
theorem slimB_of {b : Bk} {q : Qn} {n : Int} {l : List Fd} (h : Slim b q n l) : slimB b q n l = true := by
  simp only [slimB, Bool.and_eq_true, List.all_eq_true]
  refine ⟨h.1, fun i hi => ?_⟩
  have hi := List.mem_range.1 hi
  rw [h.2 (l.take i) l[i] (l.drop (i + 1)) (by rw [List.getElem_cons_drop, List.take_append_drop])]
  rfl
def candF (b : Bk) (q : Qn) (n : Int) : List Fd := (n, false, -1, -1) :: ((sF b q n).map (fun i => (n, true, i, -1)) ++ (sC b q n).map (fun i => (n, true, -1, i)))
theorem right_cand {b : Bk} {q : Qn} {is : Int → Bool → Bool} {f : Fd} (h : rightB b q is f = true) : f ∈ candF b q f.1 := by
  unfold rightB at h
  unfold candF
  split at h
  · rename_i e
    rw [List.mem_cons]; exact .inl e
  · split at h
    · rename_i e
      refine List.mem_cons_of_mem _ (List.mem_append_left _ (List.mem_map.2 ⟨f.2.2.1, List.contains_iff_mem.1 h, e.symm⟩))
    · split at h
      · rename_i e
        rw [Bool.and_eq_true] at h
        refine List.mem_cons_of_mem _ (List.mem_append_right _ (List.mem_map.2 ⟨f.2.2.2, List.contains_iff_mem.1 h.1, e.symm⟩))
      · cases h
def listsF (b : Bk) (q : Qn) : Nat → List (List Fd)
  | 0 => [[]]
  | k + 1 => (listsF b q k).flatMap fun l => l :: (candF b q (k : Int)).map fun f => l ++ [f]
theorem lists_of {b : Bk} {q : Qn} : ∀ (k : Nat) (l : List Fd), Asc (-1) l → (∀ f ∈ l, f ∈ candF b q f.1) → (∀ f ∈ l, f.1 < (k : Int)) → l ∈ listsF b q k
  | 0, l, ha, _, hl => by
    cases l with
    | nil => simp [listsF]
    | cons f l =>
      have h1 := asc_gt ha f (List.mem_cons_self ..)
      have h2 := hl f (List.mem_cons_self ..)
      omega
  | k + 1, l, ha, hc, hl => by
    unfold listsF
    rw [List.mem_flatMap]
    rcases List.eq_nil_or_concat l with rfl | ⟨m, f, rfl⟩
    · exact ⟨[], lists_of k [] trivial (fun f hf => by cases hf) (fun f hf => by cases hf), List.mem_cons_self ..⟩
    · rw [List.concat_eq_append] at ha hc hl ⊢
      have h1 := asc_append.1 ha
      have hf := hl f (List.mem_append_right _ (List.mem_singleton.2 rfl))
      by_cases hk : f.1 = (k : Int)
      · refine ⟨m, lists_of k m h1.1 (fun g hg => hc g (List.mem_append_left _ hg)) (fun g hg => ?_), List.mem_cons_of_mem _ (List.mem_map.2 ⟨f, ?_, rfl⟩)⟩
        · have e1 := asc_lt_last h1.1 g hg
          have e2 := h1.2.1
          omega
        · rw [← hk]; exact hc f (List.mem_append_right _ (List.mem_singleton.2 rfl))
      · refine ⟨m ++ [f], lists_of k _ ha hc (fun g hg => ?_), List.mem_cons_self ..⟩
        have e1 := asc_lt_last ha g hg
        rw [lastS_snoc] at e1
        omega
theorem slim_only {b : Bk} {q : Qn} (hlow : LowB b) {n : Nat} {l : List Fd} (h : Slim b q (n : Int) l) : l ∈ (listsF b q (n + 1)).filter (slimB b q (n : Int)) := by
  rw [List.mem_filter]
  refine ⟨?_, slimB_of h⟩
  obtain ⟨⟨h1, h2⟩, h3⟩ := (provesB_iff hlow).1 h.1
  refine lists_of _ _ h1 (fun f hf => right_cand (h2 f hf)) (fun f hf => ?_)
  have := asc_lt_last h1 f hf
  omega
/-- The rules of the chapter's examples. -/
def exB0 : Bk := ⟨[⟨100, 200, 1000, [0], [2], 3⟩, ⟨300, 250, 1000, [1], [], 3⟩], [], [⟨7, 0, 0, 1000, 150, 1000⟩, ⟨7, 2, 500, 1000, 600, 1000⟩]⟩
def exB1 : Bk := { exB0 with rpl := [⟨0, 350, 300⟩] }
theorem exB0_valid : validB exB0 = true := by decide +kernel
theorem exB1_valid : validB exB1 = true := by decide +kernel
def exF : List Fd := [(0, true, 0, -1), (2, false, -1, -1), (3, true, -1, 0)]
def exS : List Fd := [(1, false, -1, -1), (2, true, 1, -1), (3, false, -1, -1)]
theorem slim_first {l : List Fd} (h : Slim exB0 ⟨7, 3, 400, 400⟩ 3 l) : l = exF := by
  have h := slim_only (n := 3) (low_of exB0_valid) h
  rw [show (listsF exB0 ⟨7, 3, 400, 400⟩ (3 + 1)).filter (slimB exB0 ⟨7, 3, 400, 400⟩ ((3 : Nat) : Int)) = [exF] by decide +kernel] at h
  simpa using h
theorem slim_second {l : List Fd} (h : Slim exB0 ⟨7, 3, 700, 650⟩ 3 l) : l = exS := by
  have h := slim_only (n := 3) (low_of exB0_valid) h
  rw [show (listsF exB0 ⟨7, 3, 700, 650⟩ (3 + 1)).filter (slimB exB0 ⟨7, 3, 700, 650⟩ ((3 : Nat) : Int)) = [exS] by decide +kernel] at h
  simpa using h
theorem slim_third {l : List Fd} (h : Slim exB0 ⟨7, 3, 199, 650⟩ 3 l) : l = [(3, false, -1, -1)] := by
  have h := slim_only (n := 3) (low_of exB0_valid) h
  rw [show (listsF exB0 ⟨7, 3, 199, 650⟩ (3 + 1)).filter (slimB exB0 ⟨7, 3, 199, 650⟩ ((3 : Nat) : Int)) = [[(3, false, -1, -1)]] by decide +kernel] at h
  simpa using h
theorem ex_so : soB exB0 ⟨7, 3, 400, 400⟩ 3 = true ∧ soB exB0 ⟨7, 3, 700, 650⟩ 3 = false ∧ soB exB0 ⟨7, 3, 700, 550⟩ 3 = true ∧ soB exB0 ⟨7, 3, 199, 650⟩ 3 = false ∧ soB exB0 ⟨7, 3, 400, 120⟩ 3 = false ∧ soB exB1 ⟨7, 3, 400, 400⟩ 3 = false := by decide +kernel
theorem ex_check : checkB exB0 ⟨7, 3, 400, 400⟩ true exF = true ∧ checkB exB0 ⟨7, 3, 400, 400⟩ false exF = false ∧ checkB exB0 ⟨7, 3, 700, 650⟩ true exF = false ∧ checkB exB0 ⟨7, 3, 700, 650⟩ false exS = true := by decide +kernel
end Go.Proofs.Ytiglkecmamnphaa
