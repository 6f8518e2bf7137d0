/- The disk as plain lists: contents, writes, survivors, and what each call makes of them. -/
import Derived.Laws.CopyOwn
namespace Go.Proofs.Ytghcffpcblficaa

structure Dk where
  dur : List UInt8
  vis : List UInt8
  pend : List (Nat × ByteArray)
  lost : Bool
  left : Nat
def bts (s : ByteArray) : List UInt8 := s.data.toList
theorem bts_len (s : ByteArray) : (bts s).length = s.size := Array.length_toList
def putB (l : List UInt8) (p : Nat × ByteArray) : List UInt8 := splice l p.1 (bts p.2)
theorem putB_len {l : List UInt8} {p : Nat × ByteArray} (h : p.1 + p.2.size ≤ l.length) : (putB l p).length = l.length := length_splice l p.1 (bts p.2) (by rw [bts_len]; exact h)
def putAll (l : List UInt8) (ps : List (Nat × ByteArray)) : List UInt8 := ps.foldl putB l
theorem putAll_len {ps : List (Nat × ByteArray)} : ∀ {l : List UInt8}, (∀ p ∈ ps, p.1 + p.2.size ≤ l.length) → (putAll l ps).length = l.length := by
  induction ps with
  | nil => intro l _; rfl
  | cons p ps ih =>
    intro l h
    have h1 := putB_len (h p (List.mem_cons_self ..))
    show (putAll (putB l p) ps).length = _
    rw [ih (fun q hq => by rw [h1]; exact h q (List.mem_cons_of_mem _ hq)), h1]
theorem putAll_snoc (l : List UInt8) (ps : List (Nat × ByteArray)) (p : Nat × ByteArray) : putAll l (ps ++ [p]) = putB (putAll l ps) p := by
  simp [putAll, List.foldl_append]
/-- The writes whose numbers are named. -/
def surv (f : Nat → Bool) : List (Nat × ByteArray) → List (Nat × ByteArray) := fun l => (l.zipIdx.filter fun q => f q.2).map (·.1)
theorem surv_nil (f : Nat → Bool) : surv f [] = [] := rfl
theorem surv_snoc (f : Nat → Bool) (l : List (Nat × ByteArray)) (p : Nat × ByteArray) : surv f (l ++ [p]) = surv f l ++ if f l.length then [p] else [] := by
  unfold surv
  rw [List.zipIdx_append, List.filter_append, List.map_append]
  congr 1
  simp only [List.zipIdx_cons, List.zipIdx_nil, Nat.zero_add, List.filter_cons, List.filter_nil]
  split <;> rfl
theorem surv_mem {f : Nat → Bool} {l : List (Nat × ByteArray)} {p : Nat × ByteArray} (h : p ∈ surv f l) : p ∈ l := by
  unfold surv at h
  obtain ⟨q, hq, rfl⟩ := List.mem_map.1 h
  have := (List.mem_filter.1 hq).1
  exact (List.mem_zipIdx' this).2 ▸ List.getElem_mem _
theorem surv_le (f : Nat → Bool) (l : List (Nat × ByteArray)) : (surv f l).length ≤ l.length := by
  unfold surv
  rw [List.length_map]
  exact Nat.le_trans (List.length_filter_le _ _) (by simp)
theorem surv_all {f : Nat → Bool} {l : List (Nat × ByteArray)} (h : ∀ i, i < l.length → f i = true) : surv f l = l := by
  unfold surv
  rw [List.filter_eq_self.2 (fun q hq => h _ (by
    obtain ⟨h1, _⟩ := List.mem_zipIdx' hq
    exact h1))]
  simp
theorem surv_none {f : Nat → Bool} {l : List (Nat × ByteArray)} (h : ∀ i, i < l.length → f i = false) : surv f l = [] := by
  unfold surv
  rw [List.filter_eq_nil_iff.2 (fun q hq => by
    obtain ⟨h1, _⟩ := List.mem_zipIdx' hq
    rw [h _ h1]; exact Bool.false_ne_true)]
  rfl
theorem surv_same {f f' : Nat → Bool} {l : List (Nat × ByteArray)} (h : ∀ i, i < l.length → f i = f' i) : surv f l = surv f' l := by
  unfold surv
  congr 1
  refine List.filter_congr fun q hq => h _ ?_
  obtain ⟨h1, _⟩ := List.mem_zipIdx' hq
  exact h1
/-- What remains of a write. -/
def cutW (t : Nat) (p : Nat × ByteArray) : Nat × ByteArray := (p.1, p.2.extract 0 (min t p.2.size))
theorem cutW_size (t : Nat) (p : Nat × ByteArray) : (cutW t p).2.size = min t p.2.size := by
  simp [cutW]
/-- The last one torn. -/
def tornL (t : Int) (l : List (Nat × ByteArray)) : List (Nat × ByteArray) := if t < 0 then l else l.modify (l.length - 1) (cutW t.toNat)
theorem tornL_len (t : Int) (l : List (Nat × ByteArray)) : (tornL t l).length = l.length := by
  unfold tornL; split
  · rfl
  · simp
theorem tornL_nil (t : Int) : tornL t [] = [] := by
  unfold tornL; split <;> rfl
theorem tornL_snoc (t : Int) (l : List (Nat × ByteArray)) (p : Nat × ByteArray) : tornL t (l ++ [p]) = l ++ [if t < 0 then p else cutW t.toNat p] := by
  unfold tornL
  by_cases h : t < 0
  · simp [h]
  · simp only [h, if_false]
    apply List.ext_getElem?
    intro i
    simp only [List.length_append, List.length_cons, List.length_nil, Nat.add_sub_cancel]
    rw [List.getElem?_modify]
    rcases Nat.lt_trichotomy i l.length with k | k | k
    · have hk : l.length ≠ i := by omega
      rw [List.getElem?_append_left k, List.getElem?_append_left k]
      simp only [hk, if_false]
      cases l[i]? <;> rfl
    · subst k; simp
    · have hk : l.length ≠ i := by omega
      rw [List.getElem?_append_right (by omega), List.getElem?_append_right (by omega)]
      have : ∀ q : Nat × ByteArray, [q][i - l.length]? = none := fun q => by rw [List.getElem?_eq_none]; simp; omega
      rw [this, this]; rfl
theorem tornL_fits {t : Int} {l : List (Nat × ByteArray)} {n : Nat} (h : ∀ p ∈ l, p.1 + p.2.size ≤ n) : ∀ p ∈ tornL t l, p.1 + p.2.size ≤ n := by
  rcases List.eq_nil_or_concat l with rfl | ⟨l', q, rfl⟩
  · intro p hp; rw [tornL_nil] at hp; cases hp
  · rw [List.concat_eq_append] at h ⊢
    rw [tornL_snoc]
    intro p hp
    rcases List.mem_append.1 hp with hp | hp
    · exact h p (List.mem_append.2 (.inl hp))
    · have hq := h q (List.mem_append.2 (.inr (by simp)))
      rw [List.mem_singleton] at hp
      subst hp
      split
      · exact hq
      · have := cutW_size t.toNat q
        show q.1 + (cutW t.toNat q).2.size ≤ n
        omega
/-- Which numbers are named. -/
def inK (keep : List Int) (i : Nat) : Bool := decide ((i : Int) ∈ keep)
/-- What the calls make of a disk. -/
def Dk.size (d : Dk) : Nat := d.dur.length
def readyE (d : Dk) : Int := if d.lost then 91 else 0
def hasB (n : Nat) (off k : Int) : Bool := decide (0 ≤ off) && decide (0 ≤ k) && decide (k ≤ n - off)
def wroteD (d : Dk) : Dk := if 0 < d.left then { d with lost := d.left == 1, left := d.left - 1 } else d
def writeE (d : Dk) (off : Int) (s : ByteArray) : Int := if d.lost then 91 else if hasB d.dur.length off s.size then 0 else 90
def writeD (d : Dk) (off : Int) (s : ByteArray) : Dk :=
  if writeE d off s = 0 then wroteD { d with vis := putB d.vis (off.toNat, s), pend := d.pend ++ [(off.toNat, s)] } else d
def syncD (d : Dk) : Dk := if d.lost then d else { d with dur := d.vis, pend := [] }
def readE (d : Dk) (off n : Int) : Int := if d.lost then 91 else if hasB d.dur.length off n then 0 else 90
def strB (l : List UInt8) : ByteArray := ⟨l.toArray⟩
def readS (d : Dk) (off n : Int) : ByteArray := if readE d off n = 0 then strB ((d.vis.drop off.toNat).take n.toNat) else ByteArray.empty
def cutE (d : Dk) (n : Int) : Int := if d.lost then 91 else if n < 0 then 2 else 0
def cutD (d : Dk) (n : Int) : Dk := if cutE d n = 0 then { d with lost := n == 0, left := n.toNat } else d
def crashL (d : Dk) (keep : List Int) (t : Int) : List UInt8 := putAll d.dur (tornL t (surv (inK keep) d.pend))
def crashD (d : Dk) (keep : List Int) (t : Int) : Dk := ⟨crashL d keep t, crashL d keep t, [], false, 0⟩
def newD (n : Nat) : Dk := ⟨List.replicate n 0, List.replicate n 0, [], false, 0⟩
/-- What holds of every disk. -/
structure Dk.Ok (d : Dk) : Prop where
  vis : d.vis = putAll d.dur d.pend
  fit : ∀ p ∈ d.pend, p.1 + p.2.size ≤ d.dur.length
  small : d.dur.length ≤ 4194304
  left : d.left ≤ 9223372036854775807
theorem Dk.Ok.len {d : Dk} (h : d.Ok) : d.vis.length = d.dur.length := by rw [h.vis, putAll_len h.fit]
theorem newD_ok {n : Nat} (h : n ≤ 4194304) : (newD n).Ok := ⟨rfl, (fun p hp => by cases hp), by simpa [newD] using h, by simp [newD]⟩
theorem wroteD_ok {d : Dk} (h : d.Ok) : (wroteD d).Ok := by
  unfold wroteD
  split
  · exact ⟨h.vis, h.fit, h.small, by have := h.left; show d.left - 1 ≤ _; omega⟩
  · exact h
theorem hasB_iff {n : Nat} {off k : Int} : hasB n off k = true ↔ 0 ≤ off ∧ 0 ≤ k ∧ off + k ≤ n := by
  simp only [hasB, Bool.and_eq_true, decide_eq_true_eq]
  omega
theorem writeE_fit {d : Dk} {off : Int} {s : ByteArray} (h : writeE d off s = 0) : d.lost = false ∧ 0 ≤ off ∧ off.toNat + s.size ≤ d.dur.length := by
  unfold writeE at h
  split at h
  · cases h
  · split at h
    · rename_i h1 h2
      rw [hasB_iff] at h2
      refine ⟨by simpa using h1, h2.1, by omega⟩
    · cases h
theorem writeD_ok {d : Dk} (h : d.Ok) (off : Int) (s : ByteArray) : (writeD d off s).Ok := by
  unfold writeD
  split
  · rename_i h0
    obtain ⟨_, h1, h2⟩ := writeE_fit h0
    refine wroteD_ok ⟨?_, ?_, h.small, h.left⟩
    · show putB d.vis (off.toNat, s) = putAll d.dur (d.pend ++ [(off.toNat, s)])
      rw [putAll_snoc, ← h.vis]
    · intro p hp
      rcases List.mem_append.1 hp with hp | hp
      · exact h.fit p hp
      · rw [List.mem_singleton] at hp; subst hp; exact h2
  · exact h
theorem syncD_ok {d : Dk} (h : d.Ok) : (syncD d).Ok := by
  unfold syncD
  split
  · exact h
  · exact ⟨rfl, (fun p hp => by cases hp), by show d.vis.length ≤ _; rw [h.len]; exact h.small, h.left⟩
theorem cutD_ok {d : Dk} (h : d.Ok) {n : Int} (hn : n ≤ 9223372036854775807) : (cutD d n).Ok := by
  unfold cutD
  split
  · exact ⟨h.vis, h.fit, h.small, by show n.toNat ≤ _; omega⟩
  · exact h
theorem crash_fit {d : Dk} (h : d.Ok) (keep : List Int) (t : Int) : ∀ p ∈ tornL t (surv (inK keep) d.pend), p.1 + p.2.size ≤ d.dur.length := tornL_fits fun p hp => h.fit p (surv_mem hp)
theorem crashL_len {d : Dk} (h : d.Ok) (keep : List Int) (t : Int) : (crashL d keep t).length = d.dur.length := putAll_len (crash_fit h keep t)
theorem crashD_ok {d : Dk} (h : d.Ok) (keep : List Int) (t : Int) : (crashD d keep t).Ok := ⟨rfl, (fun p hp => by cases hp), by show (crashL d keep t).length ≤ _; rw [crashL_len h]; exact h.small, by simp [crashD]⟩
theorem wroteD_len (d : Dk) : (wroteD d).dur = d.dur := by unfold wroteD; split <;> rfl
theorem writeD_len (d : Dk) (off : Int) (s : ByteArray) : (writeD d off s).dur.length = d.dur.length := by
  unfold writeD; split
  · rw [wroteD_len]
  · rfl
theorem syncD_len {d : Dk} (h : d.Ok) : (syncD d).dur.length = d.dur.length := by
  unfold syncD; split
  · rfl
  · exact h.len
theorem cutD_len (d : Dk) (n : Int) : (cutD d n).dur.length = d.dur.length := by unfold cutD; split <;> rfl
theorem crashD_len {d : Dk} (h : d.Ok) (keep : List Int) (t : Int) : (crashD d keep t).dur.length = d.dur.length := crashL_len h keep t
end Go.Proofs.Ytghcffpcblficaa
