/- The clock's plain functions: what Spread, At and Reads answer, and what is true of them. -/
namespace Go.Proofs.Ytjhcdkllneeijaa

/-- Least and greatest number of true seconds. -/
def lo (d n : Int) : Int := if 0 < n then 1000 * (n - 1) / (1000 + d) + 1 else 0
def hi (d n : Int) : Int := (1000 * (n + 1) - 1) / (1000 - d)
/-- The inequality of a course. -/
def Fits (d x n : Int) : Prop := (1000 - d) * x - 1000 < 1000 * n ∧ 1000 * n < (1000 + d) * x + 1000

theorem le_hi {d : Int} (h2 : d ≤ 100) (n x : Int) : x ≤ hi d n ↔ (1000 - d) * x - 1000 < 1000 * n := by
  unfold hi
  rw [Int.le_ediv_iff_mul_le (by omega), Int.mul_comm x]
  generalize (1000 - d) * x = y
  omega
theorem lo_le {d : Int} (h1 : 0 ≤ d) {n x : Int} (hn : 0 ≤ n) (hx : 0 ≤ x) : lo d n ≤ x ↔ 1000 * n < (1000 + d) * x + 1000 := by
  unfold lo
  by_cases h : 0 < n
  · rw [if_pos h, show (1000 * (n - 1) / (1000 + d) + 1 ≤ x) ↔ (1000 * (n - 1) / (1000 + d) < x) from by omega, Int.ediv_lt_iff_lt_mul (by omega), Int.mul_comm x]
    generalize (1000 + d) * x = y
    omega
  · have h0 : n = 0 := by omega
    subst h0
    have := Int.mul_nonneg (show 0 ≤ 1000 + d by omega) hx
    rw [if_neg (by omega)]
    generalize (1000 + d) * x = y at this ⊢
    omega
theorem lo_nonneg {d n : Int} (h1 : 0 ≤ d) : 0 ≤ lo d n := by
  unfold lo
  split
  · have := Int.ediv_nonneg (show 0 ≤ 1000 * (n - 1) by omega) (show 0 ≤ 1000 + d by omega)
    omega
  · omega
theorem fits_iff {d n x : Int} (h1 : 0 ≤ d) (h2 : d ≤ 100) (hn : 0 ≤ n) (hx : 0 ≤ x) : Fits d x n ↔ lo d n ≤ x ∧ x ≤ hi d n := by
  rw [lo_le h1 hn hx, le_hi h2]; exact And.comm
theorem le_hi_self {d n : Int} (h1 : 0 ≤ d) (h2 : d ≤ 100) (hn : 0 ≤ n) : n ≤ hi d n := by
  rw [le_hi h2]
  have := Int.mul_nonneg h1 hn
  rw [Int.sub_mul]
  generalize d * n = y at this ⊢
  omega
theorem lo_le_self {d n : Int} (h1 : 0 ≤ d) (hn : 0 ≤ n) : lo d n ≤ n := by
  rw [lo_le h1 hn hn]
  have := Int.mul_nonneg h1 hn
  rw [Int.add_mul]
  generalize d * n = y at this ⊢
  omega
theorem hi_nonneg {d n : Int} (h1 : 0 ≤ d) (h2 : d ≤ 100) (hn : 0 ≤ n) : 0 ≤ hi d n := Int.le_trans hn (le_hi_self h1 h2 hn)
theorem lo_hi {d n : Int} (h1 : 0 ≤ d) (h2 : d ≤ 100) (hn : 0 ≤ n) : lo d n ≤ hi d n := Int.le_trans (lo_le_self h1 hn) (le_hi_self h1 h2 hn)
theorem hi_le {d n B : Int} (h2 : d ≤ 100) (h : 1000 * n + 1000 ≤ (1000 - d) * (B + 1)) : hi d n ≤ B := by
  have := (not_congr (le_hi h2 n (B + 1))).2 (by generalize (1000 - d) * (B + 1) = y at h; omega)
  omega
theorem hi_big {d n : Int} (h1 : 0 ≤ d) (h2 : d ≤ 100) (hn : 0 ≤ n) (hb : n ≤ 10000000) : hi d n ≤ 12000000 := by
  refine hi_le h2 ?_
  have := Int.mul_le_mul_of_nonneg_right (show (900 : Int) ≤ 1000 - d by omega) (show (0 : Int) ≤ 12000001 by omega)
  omega
theorem hi_small {d n : Int} (h1 : 0 ≤ d) (h2 : d ≤ 100) (hn : 0 ≤ n) (hb : n ≤ 10000) : hi d n ≤ 20000 := by
  refine hi_le h2 ?_
  have := Int.mul_le_mul_of_nonneg_right (show (900 : Int) ≤ 1000 - d by omega) (show (0 : Int) ≤ 20001 by omega)
  omega
theorem lo_mono {d n m : Int} (h1 : 0 ≤ d) (hn : 0 ≤ n) (h : n ≤ m) : lo d n ≤ lo d m := by
  rw [lo_le h1 hn (lo_nonneg h1)]
  have := (lo_le h1 (n := m) (by omega) (lo_nonneg (n := m) h1)).1 (Int.le_refl _)
  omega
theorem hi_mono {d n m : Int} (h2 : d ≤ 100) (h : n ≤ m) : hi d n ≤ hi d m := by
  rw [le_hi h2]
  have := (le_hi h2 n (hi d n)).1 (Int.le_refl _)
  omega
theorem lo_wide {d e n : Int} (h1 : 0 ≤ d) (h : d ≤ e) (hn : 0 ≤ n) : lo e n ≤ lo d n := by
  have h0 := lo_nonneg (n := n) h1
  rw [lo_le (by omega) hn h0]
  have := (lo_le h1 hn h0).1 (Int.le_refl _)
  have hm := Int.mul_le_mul_of_nonneg_right (show 1000 + d ≤ 1000 + e by omega) h0
  generalize (1000 + d) * lo d n = y at *
  generalize (1000 + e) * lo d n = z at *
  omega
theorem hi_wide {d e n : Int} (h1 : 0 ≤ d) (h : d ≤ e) (h2 : e ≤ 100) (hn : 0 ≤ n) : hi d n ≤ hi e n := by
  have h0 := hi_nonneg (n := n) h1 (by omega) hn
  rw [le_hi h2]
  have := (le_hi (d := d) (by omega) n (hi d n)).1 (Int.le_refl _)
  have hm := Int.mul_le_mul_of_nonneg_right (show 1000 - e ≤ 1000 - d by omega) h0
  generalize (1000 - d) * hi d n = y at *
  generalize (1000 - e) * hi d n = z at *
  omega
theorem lo_zero (n : Int) (hn : 0 ≤ n) : lo 0 n = n := by unfold lo; split <;> omega
theorem hi_zero (n : Int) : hi 0 n = n := by unfold hi; omega

/-- What a reading (the local second, the first and the last true one) says of a local second. -/
abbrev Rd := Int × Int × Int
def bnd (d : Int) (r : Rd) (l : Int) : Int × Int :=
  if r.1 < l then (r.2.1 + lo d (l - r.1), r.2.2 + hi d (l - r.1))
  else if l < r.1 then (r.2.1 - hi d (r.1 - l), r.2.2 - lo d (r.1 - l))
  else (r.2.1 - hi d 0, r.2.2 + hi d 0)
def nar (d l : Int) (w : Int × Int) (r : Rd) : Int × Int := (max w.1 (bnd d r l).1, min w.2 (bnd d r l).2)
def win (d : Int) (rs : List Rd) (l : Int) : Int × Int := rs.foldl (nar d l) (0, 10000000)

theorem fold_fst (d l t : Int) : ∀ (rs : List Rd) (w : Int × Int), (rs.foldl (nar d l) w).1 ≤ t ↔ w.1 ≤ t ∧ ∀ r ∈ rs, (bnd d r l).1 ≤ t
  | [], w => by simp
  | r :: rs, w => by
    rw [List.foldl_cons, fold_fst d l t rs]
    simp only [nar, List.mem_cons, forall_eq_or_imp]
    rw [show (max w.1 (bnd d r l).1 ≤ t) ↔ (w.1 ≤ t ∧ (bnd d r l).1 ≤ t) from by omega, and_assoc]
theorem fold_snd (d l t : Int) : ∀ (rs : List Rd) (w : Int × Int), t ≤ (rs.foldl (nar d l) w).2 ↔ t ≤ w.2 ∧ ∀ r ∈ rs, t ≤ (bnd d r l).2
  | [], w => by simp
  | r :: rs, w => by
    rw [List.foldl_cons, fold_snd d l t rs]
    simp only [nar, List.mem_cons, forall_eq_or_imp]
    rw [show (t ≤ min w.2 (bnd d r l).2) ↔ (t ≤ w.2 ∧ t ≤ (bnd d r l).2) from by omega, and_assoc]
theorem win_fst {d l t : Int} {rs : List Rd} : (win d rs l).1 ≤ t ↔ 0 ≤ t ∧ ∀ r ∈ rs, (bnd d r l).1 ≤ t := fold_fst d l t rs _
theorem win_snd {d l t : Int} {rs : List Rd} : t ≤ (win d rs l).2 ↔ t ≤ 10000000 ∧ ∀ r ∈ rs, t ≤ (bnd d r l).2 := fold_snd d l t rs _
theorem win_lo (d l : Int) (rs : List Rd) : 0 ≤ (win d rs l).1 := (win_fst.1 (Int.le_refl _)).1
theorem win_hi (d l : Int) (rs : List Rd) : (win d rs l).2 ≤ 10000000 := (win_snd.1 (Int.le_refl _)).1

/-- Both ends do not descend with the local second. -/
theorem bnd_mono {d : Int} (h1 : 0 ≤ d) (h2 : d ≤ 100) (r : Rd) {l m : Int} (h : l ≤ m) : (bnd d r l).1 ≤ (bnd d r m).1 ∧ (bnd d r l).2 ≤ (bnd d r m).2 := by
  have a0 := hi_nonneg (n := 0) h1 h2 (by omega)
  unfold bnd
  by_cases c1 : r.1 < l
  · rw [if_pos c1, if_pos (by omega)]
    have := lo_mono h1 (show 0 ≤ l - r.1 by omega) (show l - r.1 ≤ m - r.1 by omega)
    have := hi_mono h2 (show l - r.1 ≤ m - r.1 by omega)
    exact ⟨by dsimp only; omega, by dsimp only; omega⟩
  · rw [if_neg c1]
    by_cases c2 : l < r.1
    · rw [if_pos c2]
      have b0 := hi_mono h2 (show 0 ≤ r.1 - l by omega)
      have b1 := lo_nonneg (n := r.1 - l) h1
      by_cases c3 : r.1 < m
      · rw [if_pos c3]
        have b2 := lo_nonneg (n := m - r.1) h1
        have b3 := hi_nonneg (n := m - r.1) h1 h2 (by omega)
        exact ⟨by dsimp only; omega, by dsimp only; omega⟩
      · rw [if_neg c3]
        by_cases c4 : m < r.1
        · rw [if_pos c4]
          have := lo_mono h1 (show 0 ≤ r.1 - m by omega) (show r.1 - m ≤ r.1 - l by omega)
          have := hi_mono h2 (show r.1 - m ≤ r.1 - l by omega)
          exact ⟨by dsimp only; omega, by dsimp only; omega⟩
        · rw [if_neg c4]
          exact ⟨by dsimp only; omega, by dsimp only; omega⟩
    · rw [if_neg c2]
      by_cases c3 : r.1 < m
      · rw [if_pos c3]
        have b2 := lo_nonneg (n := m - r.1) h1
        have b3 := hi_mono h2 (show 0 ≤ m - r.1 by omega)
        exact ⟨by dsimp only; omega, by dsimp only; omega⟩
      · rw [if_neg c3, if_neg (by omega)]
        exact ⟨by dsimp only; omega, by dsimp only; omega⟩
theorem win_mono {d : Int} (h1 : 0 ≤ d) (h2 : d ≤ 100) (rs : List Rd) {l m : Int} (h : l ≤ m) : (win d rs l).1 ≤ (win d rs m).1 ∧ (win d rs l).2 ≤ (win d rs m).2 := by
  constructor
  · rw [win_fst]
    have := win_fst.1 (Int.le_refl (win d rs m).1)
    exact ⟨this.1, fun r hr => Int.le_trans (bnd_mono h1 h2 r h).1 (this.2 r hr)⟩
  · rw [win_snd]
    have := win_snd.1 (Int.le_refl (win d rs l).2)
    exact ⟨this.1, fun r hr => Int.le_trans (this.2 r hr) (bnd_mono h1 h2 r h).2⟩

/-- Valid readings behind a local second. -/
def goodB (b : Int) : List Rd → Bool
  | [] => true
  | r :: rs => decide (b < r.1) && decide (r.1 ≤ 10000000) && decide (0 ≤ r.2.1) && decide (r.2.1 ≤ r.2.2) && decide (r.2.2 ≤ 10000000) && goodB r.1 rs
def validB (d : Int) (rs : List Rd) : Bool := decide (0 ≤ d) && decide (d ≤ 100) && decide (rs.length ≤ 12) && goodB (-1) rs
def okT (t : Int) : Bool := decide (0 ≤ t) && decide (t ≤ 10000000)
theorem okT_iff {t : Int} : okT t = true ↔ 0 ≤ t ∧ t ≤ 10000000 := by simp [okT]
theorem valid_iff {d : Int} {rs : List Rd} : validB d rs = true ↔ (0 ≤ d ∧ d ≤ 100) ∧ rs.length ≤ 12 ∧ goodB (-1) rs = true := by simp [validB, and_assoc]
theorem good_all {b : Int} {rs : List Rd} (h : goodB b rs = true) : ∀ r ∈ rs, b < r.1 ∧ r.1 ≤ 10000000 ∧ 0 ≤ r.2.1 ∧ r.2.1 ≤ r.2.2 ∧ r.2.2 ≤ 10000000 := by
  induction rs generalizing b with
  | nil => intro r hr; cases hr
  | cons x xs ih =>
    simp only [goodB, Bool.and_eq_true, decide_eq_true_eq] at h
    obtain ⟨⟨⟨⟨⟨a1, a2⟩, a3⟩, a4⟩, a5⟩, a6⟩ := h
    intro r hr
    rcases List.mem_cons.1 hr with rfl | hr
    · exact ⟨a1, a2, a3, a4, a5⟩
    · have := ih a6 r hr
      exact ⟨by omega, this.2⟩

/-- Spread, At, Before, After. -/
def spreadS (d n : Int) : Int × Int := if 0 ≤ d ∧ d ≤ 100 ∧ 0 ≤ n ∧ n ≤ 10000000 then (lo d n, hi d n) else (0, 0)
def atS (d : Int) (rs : List Rd) (l : Int) : Int × Int × Int :=
  if validB d rs = true ∧ okT l = true ∧ (win d rs l).1 ≤ (win d rs l).2 then ((win d rs l).1, (win d rs l).2, 0) else (0, 0, 50)
def beforeS (d : Int) (rs : List Rd) (l t : Int) : Bool := decide ((atS d rs l).2.2 = 0) && decide ((atS d rs l).2.1 < t)
def afterS (d : Int) (rs : List Rd) (l t : Int) : Bool := decide ((atS d rs l).2.2 = 0) && decide (t < (atS d rs l).1)

/-- Counting how many places are still false, of a condition that stays true once it is. -/
theorem count_mono (p : Nat → Bool) (n : Nat) (hp : ∀ a b, a ≤ b → b < n → p a = true → p b = true) :
    (List.range n).countP (fun i => !p i) ≤ n ∧ (∀ i, i < (List.range n).countP (fun i => !p i) → p i = false) ∧ (∀ i, (List.range n).countP (fun i => !p i) ≤ i → i < n → p i = true) := by
  induction n with
  | zero => exact ⟨by simp, fun i h => by simp at h, fun i _ h => by omega⟩
  | succ n ih =>
    obtain ⟨a, b, c⟩ := ih (fun x y h1 h2 => hp x y h1 (by omega))
    rw [List.range_succ, List.countP_append]
    cases hn : p n with
    | true =>
      simp only [List.countP_cons, List.countP_nil, hn, Bool.not_true, Bool.false_eq_true, if_false, Nat.add_zero]
      refine ⟨by omega, b, fun i h1 h2 => ?_⟩
      by_cases h : i < n
      · exact c i h1 h
      · rw [show i = n by omega]; exact hn
    | false =>
      have he : (List.range n).countP (fun i => !p i) = n := by
        by_cases h : (List.range n).countP (fun i => !p i) < n
        · have := hp (n - 1) n (by omega) (by omega) (c (n - 1) (by omega) (by omega))
          rw [hn] at this; cases this
        · omega
      rw [he] at b ⊢
      simp only [List.countP_cons, List.countP_nil, hn, Bool.not_false, if_true]
      refine ⟨by omega, fun i h => ?_, fun i h1 h2 => by omega⟩
      by_cases h' : i < n
      · exact b i h'
      · rw [show i = n by omega]; exact hn

/-- Reads: the first local second whose window does not end before t; the first one whose window begins behind t. -/
def fstN (d : Int) (rs : List Rd) (t : Int) : Nat := (List.range 10000001).countP (fun (i : Nat) => !decide (t ≤ (win d rs (i : Int)).2))
def endN (d : Int) (rs : List Rd) (t : Int) : Nat := (List.range 10000001).countP (fun (i : Nat) => !decide (t < (win d rs (i : Int)).1))
def readsS (d : Int) (rs : List Rd) (t : Int) : Int × Int × Int :=
  if validB d rs = true ∧ okT t = true ∧ fstN d rs t < endN d rs t then ((fstN d rs t : Int), (endN d rs t : Int) - 1, 0) else (0, 0, 50)
theorem fst_mono {d : Int} (h1 : 0 ≤ d) (h2 : d ≤ 100) (rs : List Rd) (t : Int) (a b : Nat) (h : a ≤ b) (hp : decide (t ≤ (win d rs (a : Int)).2) = true) : decide (t ≤ (win d rs (b : Int)).2) = true := by
  have := (win_mono h1 h2 rs (show (a : Int) ≤ b by omega)).2
  simp only [decide_eq_true_eq] at hp ⊢
  omega
theorem end_mono {d : Int} (h1 : 0 ≤ d) (h2 : d ≤ 100) (rs : List Rd) (t : Int) (a b : Nat) (h : a ≤ b) (hp : decide (t < (win d rs (a : Int)).1) = true) : decide (t < (win d rs (b : Int)).1) = true := by
  have := (win_mono h1 h2 rs (show (a : Int) ≤ b by omega)).1
  simp only [decide_eq_true_eq] at hp ⊢
  omega
theorem fst_iff {d : Int} (h1 : 0 ≤ d) (h2 : d ≤ 100) (rs : List Rd) (t : Int) {l : Nat} (hl : l ≤ 10000000) : fstN d rs t ≤ l ↔ t ≤ (win d rs (l : Int)).2 := by
  obtain ⟨_, b, c⟩ := count_mono (fun (i : Nat) => decide (t ≤ (win d rs (i : Int)).2)) 10000001 (fun a b h _ => fst_mono h1 h2 rs t a b h)
  constructor
  · intro h; simpa using c l h (by omega)
  · intro h
    apply Decidable.byContradiction
    intro hn
    have := b l (Nat.lt_of_not_le hn)
    simp only [decide_eq_false_iff_not] at this
    exact this h
theorem end_iff {d : Int} (h1 : 0 ≤ d) (h2 : d ≤ 100) (rs : List Rd) (t : Int) {l : Nat} (hl : l ≤ 10000000) : l < endN d rs t ↔ (win d rs (l : Int)).1 ≤ t := by
  obtain ⟨_, b, c⟩ := count_mono (fun (i : Nat) => decide (t < (win d rs (i : Int)).1)) 10000001 (fun a b h _ => end_mono h1 h2 rs t a b h)
  constructor
  · intro h
    have := b l h
    simp only [decide_eq_false_iff_not] at this
    omega
  · intro h
    apply Decidable.byContradiction
    intro hn
    have := c l (Nat.le_of_not_lt hn) (by omega)
    simp only [decide_eq_true_eq] at this
    omega
theorem fst_le {d : Int} (h1 : 0 ≤ d) (h2 : d ≤ 100) (rs : List Rd) (t : Int) : fstN d rs t ≤ 10000001 := (count_mono (fun (i : Nat) => decide (t ≤ (win d rs (i : Int)).2)) 10000001 (fun a b h _ => fst_mono h1 h2 rs t a b h)).1
theorem end_le {d : Int} (h1 : 0 ≤ d) (h2 : d ≤ 100) (rs : List Rd) (t : Int) : endN d rs t ≤ 10000001 := (count_mono (fun (i : Nat) => decide (t < (win d rs (i : Int)).1)) 10000001 (fun a b h _ => end_mono h1 h2 rs t a b h)).1
end Go.Proofs.Ytjhcdkllneeijaa
