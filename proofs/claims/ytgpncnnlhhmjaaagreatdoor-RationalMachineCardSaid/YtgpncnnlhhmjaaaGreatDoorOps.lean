/- The steps of package rational as plain functions of two texts; what a chain of them comes to. No walk. The operations as chains of steps: what they come to. No walk. -/
import Derived.Test.YtgpncnnlhhmjaaaGreatDoorUse
import Derived.Test.YtgpncnnlhhmjaaaGreatDoorTxt
namespace Go.Proofs.YtgpncnnlhhmjaaaGreatDoor
open Go.RowKit

abbrev St := ByteArray × ByteArray × Int
abbrev Stp := ByteArray → ByteArray → St
def mulT : ByteArray → ByteArray → ByteArray := opT (fun x y => x * y)
def mulE : ByteArray → ByteArray → Int := opE (fun x y => x * y)
def numF (T : ByteArray → ByteArray → ByteArray) (E : ByteArray → ByteArray → Int) (b : ByteArray) : Stp := fun n d => (T n b, d, E n b)
def denF (T : ByteArray → ByteArray → ByteArray) (E : ByteArray → ByteArray → Int) (b : ByteArray) : Stp := fun n d => (n, T d b, E d b)
/-- A chain: skipped behind the first error. -/
def runF : List Stp → ByteArray → ByteArray → Int → St
  | [], n, d, e => (n, d, e)
  | f :: l, n, d, e => if e = 0 then runF l (f n d).1 (f n d).2.1 (f n d).2.2 else runF l n d e
theorem runF_nil (n d : ByteArray) (e : Int) : runF [] n d e = (n, d, e) := rfl
theorem runF_cons (f : Stp) (l : List Stp) (n d : ByteArray) : runF (f :: l) n d 0 = runF l (f n d).1 (f n d).2.1 (f n d).2.2 := by rw [runF, if_pos rfl]
theorem runF_bad (l : List Stp) (n d : ByteArray) {e : Int} (h : e ≠ 0) : runF l n d e = (n, d, e) := by
  induction l with
  | nil => rfl
  | cons f l ih => rw [runF, if_neg h, ih]
def scaleF (x y : ByteArray) : Stp := fun n d => runF [numF mulT mulE x, denF mulT mulE y] n d 0
def includeF (T : ByteArray → ByteArray → ByteArray) (E : ByteArray → ByteArray → Int) (x y : ByteArray) : Stp := fun n d =>
  if mulE x y = 0 then numF T E (mulT x y) n d else (n, d, mulE x y)
def acceptF (l : List (ByteArray × ByteArray)) : Stp := fun n d => (n, d, if l.all (fun p => validR p.1 p.2) then 0 else 40)
def cutF (t more : ByteArray) : Stp := fun n d =>
  if divE n d = 0 ∧ divR n d ≠ ⟨#[48]⟩ then (opT (fun x y => x + y) (divQ n d) more, t, opE (fun x y => x + y) (divQ n d) more) else (divQ n d, t, divE n d)
def posF : Stp := fun n d => if cmpS d ⟨#[48]⟩ = 1 then (n, d, 0) else if cmpS d ⟨#[48]⟩ = -1 then scaleF ⟨#[45, 49]⟩ ⟨#[45, 49]⟩ n d else (n, d, 40)
def gcdT : ByteArray → ByteArray → ByteArray := opT (fun x y => (Int.gcd x y : Int))
def gcdE : ByteArray → ByteArray → Int := opE (fun x y => (Int.gcd x y : Int))
def lowF : Stp := fun n d => if gcdE n d = 0 then runF [numF divQ divE (gcdT n d), denF divQ divE (gcdT n d)] n d 0 else (n, d, gcdE n d)

theorem outE_ne {z : Int} (h : fits z = false) : outE z ≠ 0 := by rw [outE_not h]; decide
theorem opE_both {f : Int → Int → Int} {a b : ByteArray} (h : both a b = false) : opE f a b = 30 := by rw [opE, h]; rfl
theorem valid_empty : validB (⟨#[]⟩ : ByteArray).data.toList = false := by decide
theorem both_comm (a b : ByteArray) : both a b = both b a := by rw [both, both, Bool.and_comm]
theorem neg_one : (⟨#[45, 49]⟩ : ByteArray) = dec (-1) := m1
theorem fits_one : fits (-1) = true := fits_tiny (by decide)
theorem fits_neg {z : Int} (h : fits z = true) : fits (-z) = true := fits_le h (by omega)
theorem mulT_dec {x y : Int} (fx : fits x = true) (fy : fits y = true) (fz : fits (x * y) = true) : mulT (dec x) (dec y) = dec (x * y) ∧ mulE (dec x) (dec y) = 0 := by
  rw [mulT, mulE, opT_dec _ fx fy, opE_dec _ fx fy, outT_fits fz, outE_fits fz]; exact ⟨rfl, rfl⟩
theorem mulE_big {x y : Int} (fx : fits x = true) (fy : fits y = true) (fz : fits (x * y) = false) : mulE (dec x) (dec y) = 30 := by
  rw [mulE, opE_dec _ fx fy, outE_not fz]
theorem divOk_dec {x y : Int} (fx : fits x = true) (fy : fits y = true) (hy : y ≠ 0) : divOk (dec x) (dec y) = true := by
  rw [divOk, both_dec fx fy, num_dec, decide_eq_true hy]; rfl
theorem div_dec {x y : Int} (fx : fits x = true) (fy : fits y = true) (hy : y ≠ 0) : divQ (dec x) (dec y) = dec (x / y) ∧ divR (dec x) (dec y) = dec (x % y) ∧ divE (dec x) (dec y) = 0 := by
  have h := divOk_dec fx fy hy
  rw [divQ, divR, divE, h, num_dec, num_dec]; exact ⟨rfl, rfl, rfl⟩
theorem cmp_dec {x y : Int} (fx : fits x = true) (fy : fits y = true) : cmpS (dec x) (dec y) = cmpI x y := by
  rw [cmpS, both_dec fx fy, if_pos rfl, num_dec, num_dec]
theorem scale_dec {n d x y : Int} (fn : fits n = true) (fd : fits d = true) (fx : fits x = true) (fy : fits y = true) :
    (fits (n * x) = true → fits (d * y) = true → scaleF (dec x) (dec y) (dec n) (dec d) = (dec (n * x), dec (d * y), 0)) ∧
    ((fits (n * x) = false ∨ fits (d * y) = false) → (scaleF (dec x) (dec y) (dec n) (dec d)).2.2 ≠ 0) := by
  constructor
  · intro h1 h2
    obtain ⟨t1, e1⟩ := mulT_dec fn fx h1
    obtain ⟨t2, e2⟩ := mulT_dec fd fy h2
    rw [scaleF, runF_cons, numF, t1, e1, runF_cons, denF, t2, e2, runF_nil]
  · intro h
    by_cases h1 : fits (n * x) = true
    · have h2 : fits (d * y) = false := by rcases h with h | h; rw [h1] at h; simp at h; exact h
      obtain ⟨t1, e1⟩ := mulT_dec fn fx h1
      have e2 := mulE_big fd fy h2
      rw [scaleF, runF_cons, numF, t1, e1, runF_cons, denF, e2, runF_nil]; simp
    · have e1 := mulE_big fn fx (by simpa using h1)
      rw [scaleF, runF_cons, numF, e1, runF_bad _ _ _ (by simp)]; simp
theorem low_dec {n d : Int} (fn : fits n = true) (fd : fits d = true) (hd : 0 < d) :
    lowF (dec n) (dec d) = (dec (Rat.divInt n d).num, dec ((Rat.divInt n d).den : Int), 0) := by
  have hg0 : (Int.gcd n d : Int) ≠ 0 := by
    intro h
    have : Int.gcd n d = 0 := by omega
    rw [Int.gcd_eq_zero_iff] at this
    omega
  have fg : fits (Int.gcd n d : Int) = true := by
    refine fits_le fd ?_
    rw [Int.natAbs_natCast]
    exact Nat.le_of_dvd (by omega) (Int.gcd_dvd_natAbs_right n d)
  have e1 : gcdT (dec n) (dec d) = dec (Int.gcd n d : Int) := by rw [gcdT, opT_dec _ fn fd, outT_fits fg]
  have e2 : gcdE (dec n) (dec d) = 0 := by rw [gcdE, opE_dec _ fn fd, outE_fits fg]
  obtain ⟨q1, _, x1⟩ := div_dec fn fg hg0
  obtain ⟨q2, _, x2⟩ := div_dec fd fg hg0
  obtain ⟨r1, r2⟩ := divInt_pos (n := n) hd
  rw [lowF, if_pos e2, e1, runF_cons, numF, q1, x1, runF_cons, denF, q2, x2, runF_nil, r1, r2]
theorem cmpS_bad {n d : ByteArray} (h : both n d = false) : cmpS n d = 0 := by rw [cmpS, h]; rfl
/-- The last two steps are Make. -/
theorem fin_some {n d : ByteArray} {q : Rat} (h : makeR n d = some q) : runF [posF, lowF] n d 0 = (dec q.num, dec (q.den : Int), 0) := by
  unfold makeR at h
  split at h
  · rename_i h1
    simp only [Bool.and_eq_true, decide_eq_true_eq] at h1
    obtain ⟨v1, v2⟩ := both_parts h1.1
    have hq : Rat.divInt (numB n) (numB d) = q := by simpa using h
    have f1 := fits_of v1
    have f2 := fits_of v2
    have hd := h1.2
    rw [← dec_numB n v1, ← dec_numB d v2, ← hq]
    clear h hq h1 v1 v2
    generalize numB n = x at *
    generalize numB d = y at *
    have hc : cmpS (dec y) ⟨#[48]⟩ = cmpI y 0 := by rw [l0, cmp_dec f2 (fits_tiny (by decide))]
    rcases (show 0 < y ∨ y ≤ 0 by omega) with hy | hy
    · have : cmpI y 0 = 1 := by rw [cmpI, if_neg (by omega), if_pos hy]
      rw [runF_cons, posF, hc, if_pos this, runF_cons, low_dec f1 f2 hy, runF_nil]
    · have hy : y < 0 := by omega
      have : cmpI y 0 = -1 := by rw [cmpI, if_pos hy]
      have s := (scale_dec (x := -1) (y := -1) f1 f2 fits_one fits_one).1 (fits_le f1 (by omega)) (fits_le f2 (by omega))
      have hp : posF (dec x) (dec y) = (dec (x * -1), dec (y * -1), 0) := by
        rw [posF, hc, this, if_neg (by decide), if_pos rfl, neg_one, s]
      rw [runF_cons, hp, runF_cons, low_dec (fits_le f1 (by omega)) (fits_le f2 (by omega)) (by omega), runF_nil, show x * -1 = -x by omega, show y * -1 = -y by omega, ← divInt_negs]
  · simp at h
theorem fin_none {n d : ByteArray} (h : makeR n d = none) : (runF [posF, lowF] n d 0).2.2 ≠ 0 := by
  have h2 : (both n d && decide (numB d ≠ 0)) = false := by
    unfold makeR at h
    split at h
    · simp at h
    · rename_i h1; simpa using h1
  cases vd : validB d.data.toList with
  | false =>
    have hc : cmpS d ⟨#[48]⟩ = 0 := cmpS_bad (by rw [both, vd]; rfl)
    rw [runF_cons, posF, hc, if_neg (by decide), if_neg (by decide), runF_bad _ _ _ (by simp)]; simp
  | true =>
    have f2 := fits_of vd
    have hc : cmpS d ⟨#[48]⟩ = cmpI (numB d) 0 := by
      have e : d = dec (numB d) := (dec_numB d vd).symm
      rw [e, num_dec, l0, cmp_dec f2 (fits_tiny (by decide))]
    by_cases h0 : numB d = 0
    · have : cmpI (numB d) 0 = 0 := by rw [h0]; rfl
      rw [runF_cons, posF, hc, this, if_neg (by decide), if_neg (by decide), runF_bad _ _ _ (by simp)]; simp
    · have vn : validB n.data.toList = false := by
        cases vn : validB n.data.toList with
        | false => rfl
        | true => rw [both, vn, vd] at h2; simp [h0] at h2
      rcases (show 0 < numB d ∨ numB d ≤ 0 by omega) with hy | hy
      · have : cmpI (numB d) 0 = 1 := by rw [cmpI, if_neg (by omega), if_pos hy]
        have e2 : gcdE n d = 30 := opE_both (by rw [both, vn]; rfl)
        rw [runF_cons, posF, hc, if_pos this, runF_cons, lowF, e2, if_neg (by decide), runF_nil]; simp
      · have : cmpI (numB d) 0 = -1 := by rw [cmpI, if_pos (by omega)]
        have e1 : mulE n ⟨#[45, 49]⟩ = 30 := opE_both (by rw [both, vn]; rfl)
        have hs : scaleF ⟨#[45, 49]⟩ ⟨#[45, 49]⟩ n d = (mulT n ⟨#[45, 49]⟩, d, 30) := by rw [scaleF, runF_cons, numF, e1]; exact runF_bad _ _ _ (by simp)
        rw [runF_cons, posF, hc, this, if_neg (by decide), if_pos rfl, hs, runF_bad _ _ _ (by simp)]; simp
/-- What build hands back. -/
def buildO (l : List Stp) (n d : ByteArray) : Option Rat := if (runF l n d 0).2.2 = 0 then makeR (runF l n d 0).1 (runF l n d 0).2.1 else none
theorem build_ok (l : List Stp) (n d : ByteArray) : okO (buildO l n d) = true := by
  unfold buildO
  split
  · exact make_ok _ _
  · rfl
theorem build_nil (n d : ByteArray) : buildO [] n d = makeR n d := by rw [buildO, runF_nil]; rfl
theorem accept_yes {l : List (ByteArray × ByteArray)} (h : l.all (fun p => validR p.1 p.2) = true) (n d : ByteArray) : acceptF l n d = (n, d, 0) := by rw [acceptF, h]; rfl
theorem accept_no {l : List (ByteArray × ByteArray)} (h : l.all (fun p => validR p.1 p.2) = false) (m : List Stp) (n d : ByteArray) : buildO (acceptF l :: m) n d = none := by
  have : runF (acceptF l :: m) n d 0 = (n, d, 40) := by rw [runF_cons, acceptF, h]; exact runF_bad _ _ _ (by simp)
  rw [buildO, this]; rfl
theorem build_step {f : Stp} {n d a b : ByteArray} (h : f n d = (a, b, 0)) (l : List Stp) : buildO (f :: l) n d = buildO l a b := by
  rw [buildO, buildO, runF_cons, h]
theorem build_stop {f : Stp} {n d : ByteArray} (h : (f n d).2.2 ≠ 0) (l : List Stp) : buildO (f :: l) n d = none := by
  rw [buildO, runF_cons, runF_bad _ _ _ h, if_neg h]
theorem make_dec {x y : Int} (fx : fits x = true) (fy : fits y = true) (hy : y ≠ 0) : makeR (dec x) (dec y) = some (Rat.divInt x y) := by
  rw [makeR, both_dec fx fy, num_dec, num_dec, decide_eq_true hy]; rfl
theorem make_zero {x : Int} : makeR (dec x) (dec 0) = none := by rw [makeR, num_dec (0 : Int)]; simp
theorem fits_cases (z : Int) : fits z = true ∨ fits z = false := by cases fits z <;> simp
end Go.Proofs.YtgpncnnlhhmjaaaGreatDoor
namespace Go.Proofs.YtgpncnnlhhmjaaaGreatDoor
open Go.RowKit

def addT : ByteArray → ByteArray → ByteArray := opT (fun x y => x + y)
def addE : ByteArray → ByteArray → Int := opE (fun x y => x + y)
def subT : ByteArray → ByteArray → ByteArray := opT (fun x y => x - y)
def subE : ByteArray → ByteArray → Int := opE (fun x y => x - y)
theorem op_dec (f : Int → Int → Int) {x y : Int} (fx : fits x = true) (fy : fits y = true) (fz : fits (f x y) = true) : opT f (dec x) (dec y) = dec (f x y) ∧ opE f (dec x) (dec y) = 0 := by
  rw [opT_dec _ fx fy, opE_dec _ fx fy, outT_fits fz, outE_fits fz]; exact ⟨rfl, rfl⟩
theorem op_big (f : Int → Int → Int) {x y : Int} (fx : fits x = true) (fy : fits y = true) (fz : fits (f x y) = false) : opE f (dec x) (dec y) ≠ 0 := by
  rw [opE_dec _ fx fy]; exact outE_ne fz
theorem pair_valid {n1 d1 n2 d2 : ByteArray} : [(n1, d1), (n2, d2)].all (fun p => validR p.1 p.2) = (validR n1 d1 && validR n2 d2) := by simp
/-- Two fractions that are valid, or an error. -/
theorem read_two {n1 d1 n2 d2 : ByteArray} : (∃ a b : Rat, okQ a = true ∧ okQ b = true ∧ n1 = dec a.num ∧ d1 = dec (a.den : Int) ∧ n2 = dec b.num ∧ d2 = dec (b.den : Int) ∧ readR n1 d1 = some a ∧ readR n2 d2 = some b ∧ [(n1, d1), (n2, d2)].all (fun p => validR p.1 p.2) = true) ∨
    ([(n1, d1), (n2, d2)].all (fun p => validR p.1 p.2) = false ∧ (readR n1 d1 = none ∨ readR n2 d2 = none)) := by
  rw [pair_valid]
  cases h1 : validR n1 d1 with
  | false => exact Or.inr ⟨rfl, Or.inl (read_none h1)⟩
  | true =>
    cases h2 : validR n2 d2 with
    | false => exact Or.inr ⟨rfl, Or.inr (read_none h2)⟩
    | true =>
      obtain ⟨a, r1, e1, e2, o1⟩ := read_is h1
      obtain ⟨b, r2, e3, e4, o2⟩ := read_is h2
      exact Or.inl ⟨a, b, o1, o2, e1, e2, e3, e4, r1, r2, rfl⟩
theorem none_left {f : Option Rat → Option Rat → Option Rat} (h1 : ∀ b, f none b = none) (h2 : ∀ a, f a none = none) {a b : Option Rat} (h : a = none ∨ b = none) : f a b = none := by
  rcases h with h | h <;> subst h
  · exact h1 _
  · exact h2 _
theorem add_none {a b : Option Rat} (h : a = none ∨ b = none) : addO a b = none := none_left (fun b => by cases b <;> rfl) (fun a => by cases a <;> rfl) h
theorem sub_none {a b : Option Rat} (h : a = none ∨ b = none) : subO a b = none := none_left (fun b => by cases b <;> rfl) (fun a => by cases a <;> rfl) h
theorem mul_none {a b : Option Rat} (h : a = none ∨ b = none) : mulO a b = none := none_left (fun b => by cases b <;> rfl) (fun a => by cases a <;> rfl) h
theorem div_none {a b : Option Rat} (h : a = none ∨ b = none) : divO a b = none := none_left (fun b => by cases b <;> rfl) (fun a => by cases a <;> rfl) h
/-- Two numerators over a common denominator. -/
theorem join_chain (f : Int → Int → Int) {a b : Rat} (oa : okQ a = true) (ob : okQ b = true) :
    buildO [scaleF (dec (b.den : Int)) (dec (b.den : Int)), includeF (opT f) (opE f) (dec b.num) (dec (a.den : Int))] (dec a.num) (dec (a.den : Int)) =
      if fits (a.num * b.den) && fits (b.num * a.den) && fits ((a.den : Int) * b.den) && fits (f (a.num * b.den) (b.num * a.den)) then some (Rat.divInt (f (a.num * b.den) (b.num * a.den)) ((a.den : Int) * b.den)) else none := by
  obtain ⟨a1, a2⟩ := okQ_iff.1 oa
  obtain ⟨b1, b2⟩ := okQ_iff.1 ob
  obtain ⟨s1, s2⟩ := scale_dec a1 a2 b2 b2
  rcases fits_cases (a.num * b.den) with h1 | h1
  · rcases fits_cases ((a.den : Int) * b.den) with h3 | h3
    · rw [build_step (s1 h1 h3), h1, h3]
      rcases fits_cases (b.num * a.den) with h2 | h2
      · obtain ⟨t1, e1⟩ := mulT_dec b1 a2 h2
        rw [h2]
        rcases fits_cases (f (a.num * b.den) (b.num * a.den)) with h4 | h4
        · obtain ⟨t2, e2⟩ := op_dec f h1 h2 h4
          have hi : includeF (opT f) (opE f) (dec b.num) (dec (a.den : Int)) (dec (a.num * b.den)) (dec ((a.den : Int) * b.den)) = (dec (f (a.num * b.den) (b.num * a.den)), dec ((a.den : Int) * b.den), 0) := by
            rw [includeF, if_pos e1, t1, numF, t2, e2]
          rw [build_step hi, build_nil, make_dec h4 h3 (Int.mul_ne_zero (den_ne _) (den_ne _)), h4]; rfl
        · have hi : (includeF (opT f) (opE f) (dec b.num) (dec (a.den : Int)) (dec (a.num * b.den)) (dec ((a.den : Int) * b.den))).2.2 ≠ 0 := by
            rw [includeF, if_pos e1, t1, numF]; exact op_big f h1 h2 h4
          rw [build_stop hi, h4]; rfl
      · have e1 := mulE_big b1 a2 h2
        have hi : (includeF (opT f) (opE f) (dec b.num) (dec (a.den : Int)) (dec (a.num * b.den)) (dec ((a.den : Int) * b.den))).2.2 ≠ 0 := by
          rw [includeF, e1, if_neg (by decide)]; simp
        rw [build_stop hi, h2]; rfl
    · rw [build_stop (s2 (Or.inr h3)), h3]; simp
  · rw [build_stop (s2 (Or.inl h1)), h1]; rfl
theorem add_chain (n1 d1 n2 d2 : ByteArray) : buildO [acceptF [(n1, d1), (n2, d2)], scaleF d2 d2, includeF addT addE n2 d1] n1 d1 = addO (readR n1 d1) (readR n2 d2) := by
  rcases read_two (n1 := n1) (d1 := d1) (n2 := n2) (d2 := d2) with ⟨a, b, oa, ob, e1, e2, e3, e4, r1, r2, hv⟩ | ⟨hv, hn⟩
  · rw [build_step (accept_yes hv _ _), r1, r2, e1, e2, e3, e4, addT, addE, join_chain _ oa ob, addO, add_div]
  · rw [accept_no hv, add_none hn]
theorem sub_chain (n1 d1 n2 d2 : ByteArray) : buildO [acceptF [(n1, d1), (n2, d2)], scaleF d2 d2, includeF subT subE n2 d1] n1 d1 = subO (readR n1 d1) (readR n2 d2) := by
  rcases read_two (n1 := n1) (d1 := d1) (n2 := n2) (d2 := d2) with ⟨a, b, oa, ob, e1, e2, e3, e4, r1, r2, hv⟩ | ⟨hv, hn⟩
  · rw [build_step (accept_yes hv _ _), r1, r2, e1, e2, e3, e4, subT, subE, join_chain _ oa ob, subO, sub_div]
  · rw [accept_no hv, sub_none hn]
theorem scale_chain {n d x y : Int} (fn : fits n = true) (fd : fits d = true) (fx : fits x = true) (fy : fits y = true) (hd : d ≠ 0) :
    buildO [scaleF (dec x) (dec y)] (dec n) (dec d) = if fits (n * x) && fits (d * y) && decide (y ≠ 0) then some (Rat.divInt (n * x) (d * y)) else none := by
  obtain ⟨s1, s2⟩ := scale_dec fn fd fx fy
  rcases fits_cases (n * x) with h1 | h1
  · rcases fits_cases (d * y) with h2 | h2
    · rw [build_step (s1 h1 h2), build_nil, h1, h2]
      by_cases hy : y = 0
      · rw [hy, Int.mul_zero, make_zero]; simp
      · rw [make_dec h1 h2 (Int.mul_ne_zero hd hy)]; simp [hy]
    · rw [build_stop (s2 (Or.inr h2)), h2]; simp
  · rw [build_stop (s2 (Or.inl h1)), h1]; rfl
theorem mul_chain (n1 d1 n2 d2 : ByteArray) : buildO [acceptF [(n1, d1), (n2, d2)], scaleF n2 d2] n1 d1 = mulO (readR n1 d1) (readR n2 d2) := by
  rcases read_two (n1 := n1) (d1 := d1) (n2 := n2) (d2 := d2) with ⟨a, b, oa, ob, e1, e2, e3, e4, r1, r2, hv⟩ | ⟨hv, hn⟩
  · obtain ⟨a1, a2⟩ := okQ_iff.1 oa
    obtain ⟨b1, b2⟩ := okQ_iff.1 ob
    rw [build_step (accept_yes hv _ _), r1, r2, e1, e2, e3, e4, scale_chain a1 a2 b1 b2 (den_ne _), mulO, mul_div, decide_eq_true (den_ne b), Bool.and_true]
  · rw [accept_no hv, mul_none hn]
theorem div_chain (n1 d1 n2 d2 : ByteArray) : buildO [acceptF [(n1, d1), (n2, d2)], scaleF d2 n2] n1 d1 = divO (readR n1 d1) (readR n2 d2) := by
  rcases read_two (n1 := n1) (d1 := d1) (n2 := n2) (d2 := d2) with ⟨a, b, oa, ob, e1, e2, e3, e4, r1, r2, hv⟩ | ⟨hv, hn⟩
  · obtain ⟨a1, a2⟩ := okQ_iff.1 oa
    obtain ⟨b1, b2⟩ := okQ_iff.1 ob
    rw [build_step (accept_yes hv _ _), r1, r2, e1, e2, e3, e4, scale_chain a1 a2 b2 b1 (den_ne _), divO, div_div]
  · rw [accept_no hv, div_none hn]
/-- Rounding: more is 0 (Down) or 1 (Up). -/
def roundO (more : Int) (p : Int) : Option Rat → Option Rat := if more = 0 then downO p else upO p
theorem cut_dec {n d t m : Int} (fn : fits n = true) (fd : fits d = true) (hd : d ≠ 0) (fm : fits m = true) :
    (n % d = 0 → cutF (dec t) (dec m) (dec n) (dec d) = (dec (n / d), dec t, 0)) ∧
    (n % d ≠ 0 → fits (n / d + m) = true → cutF (dec t) (dec m) (dec n) (dec d) = (dec (n / d + m), dec t, 0)) ∧
    (n % d ≠ 0 → fits (n / d + m) = false → (cutF (dec t) (dec m) (dec n) (dec d)).2.2 ≠ 0) := by
  obtain ⟨q1, q2, q3⟩ := div_dec fn fd hd
  have fq : fits (n / d) = true := fits_le fn (Int.natAbs_ediv_le_natAbs n d)
  have hr : n % d ≠ 0 → dec (n % d) ≠ ⟨#[48]⟩ := fun h e => h (dec_inj (by rw [e, l0]))
  refine ⟨fun h => ?_, fun h f => ?_, fun h f => ?_⟩
  · rw [cutF, q1, q2, q3, if_neg (by rw [h, l0]; simp)]
  · obtain ⟨t1, e1⟩ := op_dec (fun x y => x + y) fq fm f
    rw [cutF, q1, q2, q3, if_pos ⟨rfl, hr h⟩, t1, e1]
  · rw [cutF, q1, q2, q3, if_pos ⟨rfl, hr h⟩]
    exact op_big (fun x y => x + y) fq fm f
theorem one_valid {n d : ByteArray} : [(n, d)].all (fun p => validR p.1 p.2) = validR n d := by simp
theorem dec_tens (k : Nat) : dec ((10 ^ k : Nat) : Int) = str (Lib.decDigits (10 ^ k)) := by rw [dec_nat]
theorem round_chain (n d : ByteArray) (p : Int) (h0 : 0 ≤ p) (h1 : p ≤ 30) (m : Int) (hm : m = 0 ∨ m = 1) :
    buildO [acceptF [(n, d)], scaleF (dec (10 ^ p.toNat : Nat)) ⟨#[49]⟩, cutF (dec (10 ^ p.toNat : Nat)) (dec m)] n d = roundO m p (readR n d) := by
  cases hv : validR n d with
  | false =>
    rw [accept_no (by rw [one_valid, hv]), read_none hv, roundO]
    rcases hm with rfl | rfl <;> rfl
  | true =>
    obtain ⟨q, r1, e1, e2, o1⟩ := read_is hv
    obtain ⟨a1, a2⟩ := okQ_iff.1 o1
    have ft := tens_fits h1
    have f1 : fits 1 = true := fits_tiny (by decide)
    have fm : fits m = true := by rcases hm with rfl | rfl; exact fits_tiny (by decide); exact f1
    obtain ⟨s1, s2⟩ := scale_dec a1 a2 ft f1
    rw [build_step (accept_yes (by rw [one_valid, hv]) _ _), r1, l1, e1, e2]
    rw [Int.mul_one] at s1 s2
    have hc : decide (0 ≤ p) = true := decide_eq_true h0
    have hc2 : decide (p ≤ 30) = true := decide_eq_true h1
    rcases fits_cases (q.num * (10 ^ p.toNat : Nat)) with g | g
    · rw [build_step (s1 g a2)]
      obtain ⟨c1, c2, c3⟩ := cut_dec (t := (10 ^ p.toNat : Nat)) g a2 (den_ne q) fm
      have fq : fits (q.num * (10 ^ p.toNat : Nat) / q.den) = true := fits_le g (Int.natAbs_ediv_le_natAbs _ _)
      rcases ceil_cases (q.num * (10 ^ p.toNat : Nat)) (d := q.den) with ⟨h, e⟩ | ⟨h, e⟩
      · rw [build_step (c1 h), build_nil, make_dec fq ft (tens_ne _)]
        rcases hm with rfl | rfl
        · rw [roundO, if_pos rfl, downO, hc, hc2, g]; rfl
        · rw [roundO, if_neg (by decide), upO, hc, hc2, g, e, fq]; rfl
      · rcases hm with rfl | rfl
        · rw [Int.add_zero] at c2
          rw [build_step (c2 h fq), build_nil, make_dec fq ft (tens_ne _), roundO, if_pos rfl, downO, hc, hc2, g]; rfl
        · rw [roundO, if_neg (by decide), upO, hc, hc2, g, e]
          rcases fits_cases (q.num * (10 ^ p.toNat : Nat) / q.den + 1) with k | k
          · rw [build_step (c2 h k), build_nil, make_dec k ft (tens_ne _), k]; rfl
          · rw [build_stop (c3 h k), k]; rfl
    · rw [build_stop (s2 (Or.inl g)), roundO]
      rcases hm with rfl | rfl
      · rw [if_pos rfl, downO, g]; simp
      · rw [if_neg (by decide), upO, g]; simp
end Go.Proofs.YtgpncnnlhhmjaaaGreatDoor
