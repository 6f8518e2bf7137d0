/- A disk of the call's own, as the laws see it. -/
import Derived.Test.YtghcffpcblficaaHl
namespace Go.Proofs.Ytghcffpcblficaa
open Go.RowKit Go.Lib

def In64 (x : Int) : Prop := -9223372036854775808 ≤ x ∧ x ≤ 9223372036854775807
/-- A write among the arguments: where, what, whether a Sync follows. -/
abbrev Wp := Int × ByteArray × Bool
def wpL (x : Wp) : List Value := [.int .i64 x.1, .string x.2.1, .bool x.2.2]
theorem wpL_len (x : Wp) : (wpL x).length = 3 := rfl
def GoodW (x : Wp) : Prop := In64 x.1 ∧ x.2.1.size ≤ 9223372036854775807
def WpsC (W : World) (A : Option Addr) (l : List Wp) : Prop := Cells W W.heap.size A 3 (l.map fun y => (wpL y).toArray)
theorem WpsC.at {w W : World} {A : Option Addr} {l : List Wp} (h : WpsC w A l) (hb : Below w.heap.size w W) {i : Nat} {x : Wp} (hx : l[i]? = some x) : ∃ b o : Nat, A = some ⟨b, o, none⟩ ∧ W.cell? ⟨b, o + i * 3, none⟩ = some (.int .i64 x.1) ∧ W.cell? ⟨b, o + i * 3 + 1, none⟩ = some (.string x.2.1) ∧ W.cell? ⟨b, o + i * 3 + 2, none⟩ = some (.bool x.2.2) := by
  obtain ⟨b, o, hA, hB, c⟩ := (h.below hb).get (i := i) (C := (wpL x).toArray) (by rw [List.getElem?_map, hx]; rfl)
  exact ⟨b, o, hA, c 0 _ rfl, c 1 _ rfl, c 2 _ rfl⟩
/-- A disk that a law made: box and contents known, its list of writes not named. -/
structure Ld (w W : World) (g a b : Nat) (d : Dk) : Prop where
  ex : ∃ pv, DiskM W w.heap.size ⟨g, a, b, pv⟩ d
  bel : Below w.heap.size w W
theorem own_own {W : World} {B B' k k' n n' : Nat} {e e' : TypeId} {v v' : Value} {xs xs' : List Value} (h : W.ownsRow B e k v n xs) (h' : W.ownsRow B' e' k' v' n' xs') (ht : e ≠ e') : ∀ j, v.ownBlock = some j → v'.ownBlock ≠ some j := by
  intro j h1 h2
  rcases h.2 with ⟨rfl, _⟩ | ⟨g, cap, cur, rfl, _, hg, _⟩
  · cases h1
  · rcases h'.2 with ⟨rfl, _⟩ | ⟨g', cap', cur', rfl, _, hg', _⟩
    · cases h2
    · obtain rfl : g = j := by simpa [Value.ownBlock] using h1
      obtain rfl : g' = g := by simpa [Value.ownBlock] using h2
      rw [hg] at hg'
      cases hg'
      exact ht rfl
/-- What stays: rows that are none of the disk's, rows of integers. -/
structure Stay (W Y : World) (a b : Nat) : Prop where
  row : ∀ k t C, Row W k t C → t ≠ 71 → t ≠ 66 → (t = 5 → k ≠ a ∧ k ≠ b) → Row Y k t C
  ints : ∀ B v n xs, W.ownsRow B 3 1 v n xs → Y.ownsRow B 3 1 v n xs
theorem Stay.box {W Y : World} {a b k : Nat} {C : Array Value} (h : Stay W Y a b) (r : Row W k 53 C) : Row Y k 53 C := h.row _ _ _ r (by decide) (by decide) (fun e => absurd e (by decide))
theorem Stay.buf {W Y : World} {a b k : Nat} {C : Array Value} (h : Stay W Y a b) (r : Row W k 5 C) (h1 : k ≠ a) (h2 : k ≠ b) : Row Y k 5 C := h.row _ _ _ r (by decide) (by decide) (fun _ => ⟨h1, h2⟩)
section
variable {w W Y : World} {g a b : Nat} {d : Dk}
theorem Ld.step (l : Ld w W g a b d) (h : Below W.heap.size W Y) : Ld w Y g a b d := by
  obtain ⟨⟨pv, m⟩, hb⟩ := l
  exact ⟨⟨pv, m.step h⟩, below_step hb h⟩
theorem Ld.kept {S : Nat → Prop} (l : Ld w W g a b d) (k : Kept S W Y) {t : TypeId} {gb : Nat} {C : Array Value} (hS : ∀ i, S i → i = gb) (hr : Row W gb t C) (ht : t ≠ 71) (h1 : t ≠ 66) (h2 : gb ≠ a) (h3 : gb ≠ b) (hB : w.heap.size ≤ gb) : Ld w Y g a b d := by
  obtain ⟨⟨pv, m⟩, hb⟩ := l
  refine ⟨⟨pv, m.kept k (fun i hi hs => ?_)⟩, k.below hb (fun i hi => by rw [hS i hi]; exact hB) hb.size⟩
  have hg := hS i hs
  subst hg
  rcases hi with h | h | h | h
  · exact hr.ne m.r h1 h
  · exact h2 h
  · exact h3 h
  · exact own_ne hr m.p ht h
theorem Ld.ok (l : Ld w W g a b d) : d.Ok := by
  obtain ⟨⟨pv, m⟩, _⟩ := l
  exact m.ok
theorem Ld.turned {d' : Dk} {pv : Value} (m : DiskM W w.heap.size ⟨g, a, b, pv⟩ d) (hb : Below w.heap.size w W) (t : Turned W Y w.heap.size ⟨g, a, b, pv⟩ d') : Ld w Y g a b d' ∧ Stay W Y a b := by
  obtain ⟨pv', m', k, _⟩ := t
  refine ⟨⟨⟨pv', m'⟩, k.below hb (fun i hi => m.from hi) hb.size⟩, fun i t C hr ht h1 h2 => hr.kept k (fun hi => ?_), fun B v n xs ho => own_kept ho k (fun j hj hi => ?_)⟩
  rotate_left 1
  · rcases hi with h | h | h | h
    · exact own_ne m.r ho (by decide) (by rw [hj, h])
    · exact own_ne m.a ho (by decide) (by rw [hj, h])
    · exact own_ne m.b ho (by decide) (by rw [hj, h])
    · exact own_own m.p ho (by decide) j h hj
  rcases hi with h | h | h | h
  · exact hr.ne m.r h1 h
  · by_cases e : t = 5
    · exact (h2 e).1 h
    · exact hr.ne m.a e h
  · by_cases e : t = 5
    · exact (h2 e).2 h
    · exact hr.ne m.b e h
  · exact own_ne hr m.p ht h
theorem Ld.write (l : Ld w W g a b d) (hp : d.pend.length ≤ 1000) (o : Int) (o1 : -9223372036854775808 ≤ o) (o2 : o ≤ 9223372036854775807) (s : ByteArray) (hs : s.size ≤ 9223372036854775807) :
    Calls Try.prog 21 #[.pointer (some ⟨g, 0, none⟩), .int .i64 o, .string s] W fun e w' => e = .returned (.int .i64 (writeE d o s)) ∧ Ld w w' g a b (writeD d o s) ∧ Stay W w' a b := by
  obtain ⟨⟨pv, m⟩, hb⟩ := l
  exact (write_any m hb.size hp o o1 o2 s hs).mono fun e w' ⟨he, t⟩ => ⟨he, Ld.turned m hb t⟩
theorem Ld.sync (l : Ld w W g a b d) : Calls Try.prog 23 #[.pointer (some ⟨g, 0, none⟩)] W fun e w' => e = .returned (.int .i64 (readyE d)) ∧ Ld w w' g a b (syncD d) ∧ Stay W w' a b := by
  obtain ⟨⟨pv, m⟩, hb⟩ := l
  exact (sync_any m).mono fun e w' ⟨he, t⟩ => ⟨he, Ld.turned m hb t⟩
theorem Ld.cut (l : Ld w W g a b d) (n : Int) (hn : n ≤ 9223372036854775807) : Calls Try.prog 24 #[.pointer (some ⟨g, 0, none⟩), .int .i64 n] W fun e w' => e = .returned (.int .i64 (cutE d n)) ∧ Ld w w' g a b (cutD d n) ∧ Stay W w' a b := by
  obtain ⟨⟨pv, m⟩, hb⟩ := l
  exact (cut_any m n hn).mono fun e w' ⟨he, t⟩ => ⟨he, Ld.turned m hb t⟩
theorem Ld.crash (l : Ld w W g a b d) (hp : d.pend.length ≤ 1000) (A : Option Addr) (kc : Nat) (keep : List Int) (hk : Nums W W.heap.size A keep) (hkl : keep.length ≤ 9223372036854775807) (t : Int) :
    Calls Try.prog 25 #[.pointer (some ⟨g, 0, none⟩), .slice A keep.length kc, .int .i64 t] W fun e w' => e = .returned (.int .i64 0) ∧ Ld w w' g a b (crashD d keep t) ∧ Stay W w' a b := by
  obtain ⟨⟨pv, m⟩, hb⟩ := l
  exact (crash_any m hp A kc keep hk hkl t).mono fun e w' ⟨he, t⟩ => ⟨he, Ld.turned m hb t⟩
theorem Ld.read (l : Ld w W g a b d) (o k : Int) (o1 : -9223372036854775808 ≤ o) (o2 : o ≤ 9223372036854775807) :
    Calls Try.prog 14 #[.pointer (some ⟨g, 0, none⟩), .int .i64 o, .int .i64 k] W fun e w' => e = .returned (.tuple #[.string (readS d o k), .int .i64 (readE d o k)]) ∧ w' = W := by
  obtain ⟨⟨pv, m⟩, hb⟩ := l
  have h := read_any m o k o1 o2
  exact h
theorem Ld.size (l : Ld w W g a b d) : Calls Try.prog 16 #[.pointer (some ⟨g, 0, none⟩)] W fun e w' => e = .returned (.int .i64 d.dur.length) ∧ w' = W := by
  obtain ⟨⟨pv, m⟩, hb⟩ := l
  have h := size_any m
  exact h
theorem Ld.pending (l : Ld w W g a b d) : Calls Try.prog 17 #[.pointer (some ⟨g, 0, none⟩)] W fun e w' => e = .returned (.int .i64 d.pend.length) ∧ w' = W := by
  obtain ⟨⟨pv, m⟩, hb⟩ := l
  have h := pending_any m
  exact h
end
/-- A row of integers of the call's own grows beside the disk. -/
theorem Ld.ints {w W Y : World} {g a b : Nat} {d : Dk} {B n : Nat} {v : Value} {xs : List Value} (l : Ld w W g a b d) (o : W.ownsRow B 3 1 v n xs) (hB : w.heap.size ≤ B) (hg : W.grownBy Y v.ownBlock) : Ld w Y g a b d := by
  obtain ⟨⟨pv, m⟩, hb⟩ := l
  have k : Kept (fun k => v.ownBlock = some k) W Y := (Kept.refl _ W).grown hg (fun k hk => .inl hk)
  refine ⟨⟨pv, m.kept k (fun i hi hs => ?_)⟩, k.below hb (fun i hi => Nat.le_trans hB (o.lt i hi).1) hb.size⟩
  rcases hi with h | h | h | h
  · exact own_ne m.r o (by decide) (by rw [hs, h])
  · exact own_ne m.a o (by decide) (by rw [hs, h])
  · exact own_ne m.b o (by decide) (by rw [hs, h])
  · exact own_own m.p o (by decide) i h hs
def upto (n : Nat) : List Int := (List.range n).map fun (i : Nat) => (i : Int)
theorem upto_len (n : Nat) : (upto n).length = n := by simp [upto]
theorem upto_succ (n : Nat) : upto (n + 1) = upto n ++ [(n : Int)] := by simp [upto, List.range_succ]
def iV (l : List Int) : List Value := l.map fun x => Value.int .i64 x
theorem own_nums {W : World} {B n c : Nat} {A : Option Addr} {l : List Int} (h : W.ownsRow B 3 1 (.slice A n c) n (iV l)) : Nums W W.heap.size A l := by
  rcases h.2 with ⟨h1, h2⟩ | ⟨g, cap, cur, hv, _, hg, _⟩
  · have := h.1
    rw [h2] at this
    exact .inl (List.eq_nil_of_length_eq_zero (by simpa [iV] using this))
  · cases hv
    refine .inr ⟨g, 0, rfl, (Array.getElem?_eq_some_iff.1 hg).1, fun i r hr => ?_⟩
    rw [Nat.zero_add]
    have hi : i < l.length := (List.getElem?_eq_some_iff.1 hr).1
    have hl := h.1
    simp only [iV, List.length_map, Nat.mul_one] at hl
    rw [h.cellAt i (by omega)]
    simp [iV, hr]
theorem int_info : (Try.prog.info? 3).map (fun i => (i.zero, i.size, i.bytes)) = some (some (.int .i64 0), 1, 8) := by kernel_rfl
theorem crash_none {d : Dk} (t : Int) : crashD d [] t = ⟨d.dur, d.dur, [], false, 0⟩ := by
  have h : crashL d [] t = d.dur := by
    unfold crashL
    rw [surv_none (fun i _ => by simp [inK]), tornL_nil]
    rfl
  unfold crashD
  rw [h]
theorem crash_all {d : Dk} (ho : d.Ok) : crashD d (upto d.pend.length) (-1) = ⟨d.vis, d.vis, [], false, 0⟩ := by
  have h : crashL d (upto d.pend.length) (-1) = d.vis := by
    unfold crashL
    rw [surv_all (f := inK (upto d.pend.length)) (l := d.pend) (fun i hi => decide_eq_true (List.mem_map.2 ⟨i, List.mem_range.2 hi, rfl⟩)), ho.vis]
    rfl
  unfold crashD
  rw [h]
/-- A disk and a buffer beside it. -/
structure Lb (w W : World) (g a b gb n : Nat) (d : Dk) (buf : List UInt8) : Prop where
  l : Ld w W g a b d
  r : Row W gb 5 (byteCells buf).toArray
  na : gb ≠ a
  nb : gb ≠ b
  hB : w.heap.size ≤ gb
  hn : d.dur.length = n
  hl : buf.length = n
section
variable {w W Y : World} {g a b gb n : Nat} {d d' : Dk} {buf buf' : List UInt8}
theorem Lb.step (x : Lb w W g a b gb n d buf) (h : Below W.heap.size W Y) : Lb w Y g a b gb n d buf := ⟨x.l.step h, x.r.step h, x.na, x.nb, x.hB, x.hn, x.hl⟩
theorem Lb.turn (x : Lb w W g a b gb n d buf) (l : Ld w Y g a b d') (s : Stay W Y a b) (hn : d'.dur.length = n) : Lb w Y g a b gb n d' buf := ⟨l, s.buf x.r x.na x.nb, x.na, x.nb, x.hB, hn, x.hl⟩
theorem Lb.fill (x : Lb w W g a b gb n d buf) (k : Kept (· = gb) W Y) (r : Row Y gb 5 (byteCells buf').toArray) (hl : buf'.length = n) : Lb w Y g a b gb n d buf' := ⟨x.l.kept k (fun _ h => h) x.r (by decide) (by decide) x.na x.nb x.hB, r, x.na, x.nb, x.hB, x.hn, hl⟩
end
theorem make_bytes (W : World) (N : Nat) (h : N ≤ 4194304) : (Instr.makeSlice 40 (.int .i64 (N : Int)) (.int .i64 (N : Int))).run Try.prog W = .ok (.slice (some ⟨W.heap.size, 0, none⟩) N N) (W.alloc (.cells (byteCells (List.replicate N 0)).toArray 5)) := by
  obtain ⟨i0, hi, hz0, hz1, hz2⟩ := info_parts u8_info
  have hml : madeCells (Value.int .u8 0).cells (((N : Nat) : Int).toNat * i0.size) = (byteCells (List.replicate N 0)).toArray := by
    apply Array.ext'
    rw [hz1, Nat.mul_one, Int.toNat_natCast, bytes_zero]
    show (madeCells #[Value.int .u8 0] N).toList = _
    rw [toList_madeCells_one]
  have h := run_make (P := Try.prog) W 40 5 i0 (.int .u8 0) Try.underlying40 hi hz0 .i64 .i64 (N : Int) (N : Int) (by omega) (by omega) (by rw [hz2]; omega) (by omega)
  rw [hml] at h
  simpa using h
theorem Lb.ints {w W Y : World} {g a b gb n : Nat} {d : Dk} {buf : List UInt8} {B m : Nat} {v : Value} {xs : List Value} (x : Lb w W g a b gb n d buf) (o : W.ownsRow B 3 1 v m xs) (hB : w.heap.size ≤ B) (hg : W.grownBy Y v.ownBlock) : Lb w Y g a b gb n d buf :=
  ⟨x.l.ints o hB hg, x.r.grown hg (fun e => own_ne x.r o (by decide) e.symm), x.na, x.nb, x.hB, x.hn, x.hl⟩
/-- A write that fits, on a disk with power and no cut. -/
theorem write_ok {d : Dk} {p : Nat × ByteArray} (hl : d.lost = false) (hz : d.left = 0) (hf : p.1 + p.2.size ≤ d.dur.length) : writeE d p.1 p.2 = 0 ∧ writeD d p.1 p.2 = { d with vis := putB d.vis p, pend := d.pend ++ [p] } := by
  have hh : hasB d.dur.length p.1 p.2.size = true := by rw [hasB_iff]; omega
  have hE : writeE d p.1 p.2 = 0 := by unfold writeE; rw [hl, hh]; rfl
  refine ⟨hE, ?_⟩
  unfold writeD
  rw [hE, if_pos rfl, Int.toNat_natCast]
  unfold wroteD
  rw [if_neg (by show ¬ 0 < d.left; omega)]
theorem read_all {d : Dk} {n : Nat} (ho : d.Ok) (hl : d.lost = false) (hn : d.dur.length = n) : readE d 0 n = 0 ∧ readS d 0 n = strB d.vis := by
  have hh : hasB d.dur.length 0 n = true := by rw [hasB_iff]; omega
  have hE : readE d 0 n = 0 := by unfold readE; rw [hl, hh]; rfl
  refine ⟨hE, ?_⟩
  unfold readS
  rw [hE, if_pos rfl, Int.toNat_natCast]
  show strB ((d.vis.drop 0).take n) = _
  rw [List.drop_zero, List.take_of_length_le (by rw [ho.len, hn]; exact Nat.le_refl _)]
theorem new_ld {w W : World} (hb : Below w.heap.size w W) (n : Nat) (h1 : 1 ≤ n) (h2 : n ≤ 4194304) : Calls Try.prog 13 #[.int .i64 n] W fun e w' => ∃ g a b, e = .returned (.tuple #[.pointer (some ⟨g, 0, none⟩), .int .i64 0]) ∧ Ld w w' g a b (newD n) ∧ Below W.heap.size W w' ∧ W.heap.size ≤ g ∧ W.heap.size ≤ a ∧ W.heap.size ≤ b ∧ g < w'.heap.size ∧ a < w'.heap.size ∧ b < w'.heap.size :=
  (new_any n h1 h2 W).mono fun e w' ⟨h, he, m, b⟩ => by
    obtain ⟨g, a, bb, pv⟩ := h
    exact ⟨g, a, bb, he, ⟨⟨pv, m.less hb.size⟩, below_step hb b⟩, b, m.Bg, m.Ba, m.Bb, m.r.inside, m.a.inside, m.b.inside⟩
end Go.Proofs.Ytghcffpcblficaa
