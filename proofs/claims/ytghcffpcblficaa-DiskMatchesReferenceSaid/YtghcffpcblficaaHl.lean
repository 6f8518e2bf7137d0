/- pick, cut, fits, put: what the laws share. -/
import Derived.Test.YtghcffpcblficaaCr
namespace Go.Proofs.Ytghcffpcblficaa
open Go.RowKit Go.Lib

def pk (c n : Int) : Int := (if c < 0 then -(c + 1) else c) % n
theorem pk_range {c n : Int} (hn : 0 < n) : 0 ≤ pk c n ∧ pk c n < n := ⟨Int.emod_nonneg _ (by omega), Int.emod_lt_of_pos _ hn⟩
set_option maxRecDepth 100000 in
theorem pick_any (c n : Int) (c1 : -9223372036854775808 ≤ c) (c2 : c ≤ 9223372036854775807) (n1 : 0 < n) (n2 : n ≤ 9223372036854775807) (w : World) :
    Calls Try.prog 15 #[.int .i64 c, .int .i64 n] w fun e w' => e = .returned (.int .i64 (pk c n)) ∧ w' = w := by
  have hr := pk_range (c := c) n1
  by_cases h : c < 0
  · have e : (-(c + 1)).tmod n = pk c n := by rw [Int.tmod_eq_emod_of_nonneg (by omega), pk, if_pos h]
    generalize pk c n = r at *
    go_enter Try.func15, Try.ntmps15
    go_wp2
    go_ret
    exact ⟨rfl, rfl⟩
  · have e : c.tmod n = pk c n := by rw [Int.tmod_eq_emod_of_nonneg (by omega), pk, if_neg h]
    generalize pk c n = r at *
    go_enter Try.func15, Try.ntmps15
    go_wp2
    go_ret
    exact ⟨rfl, rfl⟩
def pkn (c : Int) (n : Nat) : Nat := (pk c n).toNat
theorem pkn_lt {c : Int} {n : Nat} (h : 0 < n) : pkn c n < n := by have := pk_range (c := c) (n := n) (by omega); unfold pkn; omega
theorem pickn_any (c : Int) (n : Nat) (c1 : -9223372036854775808 ≤ c) (c2 : c ≤ 9223372036854775807) (n1 : 0 < n) (n2 : n ≤ 9223372036854775807) (w : World) :
    Calls Try.prog 15 #[.int .i64 c, .int .i64 n] w fun e w' => e = .returned (.int .i64 (pkn c n)) ∧ w' = w := by
  refine (pick_any c n c1 c2 (by omega) (by omega) w).mono fun e w' ⟨he, hw⟩ => ⟨?_, hw⟩
  have := pk_range (c := c) (n := n) (by omega)
  rw [he]; unfold pkn; rw [Int.toNat_of_nonneg this.1]
def cutB (s : ByteArray) (n : Nat) : ByteArray := s.extract 0 (min n s.size)
theorem cutB_size (s : ByteArray) (n : Nat) : (cutB s n).size = min n s.size := by simp [cutB]
set_option maxRecDepth 100000 in
theorem cut_s (s : ByteArray) (n : Nat) (hs : s.size ≤ 9223372036854775807) (w : World) :
    Calls Try.prog 22 #[.string s, .int .i64 n] w fun e w' => e = .returned (.string (cutB s n)) ∧ w' = w := by
  obtain ⟨m, hm⟩ : ∃ m, m = min n s.size := ⟨_, rfl⟩
  have hmin : ∀ w : World, (Builtin.min_ #[3, 3] 3 #[.int .i64 s.size, .int .i64 n]).run Try.prog w = .ok (.int .i64 (m : Int)) w := fun w => by
    simp only [Builtin.min_, List.foldlM_cons, List.foldlM_nil, Builtin.min2, pure_bind, bind_pure]
    simp only [Sem.run_pure]
    congr 2
    split <;> omega
  have hms : m ≤ s.size := by omega
  unfold cutB
  rw [← hm]
  obtain ⟨S, hS⟩ : ∃ S, S = s.extract 0 m := ⟨_, rfl⟩
  have hS' := hS.symm
  rw [hS']
  clear hm hS
  go_enter Try.func22, Try.ntmps22
  go_wp2
  go_ret
  exact ⟨rfl, rfl⟩
/-- A write of the arguments, put on a disk of n bytes. -/
def fitP (n : Nat) (off : Int) (s : ByteArray) : Nat × ByteArray := (pkn off (n + 1), cutB s (n - pkn off (n + 1)))
theorem fitP_fit (n : Nat) (off : Int) (s : ByteArray) : (fitP n off s).1 + (fitP n off s).2.size ≤ n := by
  have h := pkn_lt (c := off) (n := n + 1) (by omega)
  have h2 := cutB_size s (n - pkn off (n + 1))
  show pkn off (n + 1) + (cutB s _).size ≤ n
  omega
theorem load_wp {w : World} {g : Nat} {t : TypeId} {a b c : Value} (h : Row w g t #[a, b, c]) : (loadVar 53 ⟨g, 0, none⟩).run Try.prog w = .ok (.agg #[a, b, c]) w := by
  obtain ⟨k0, k1, k2, _, _, _⟩ := h.three
  simp [loadVar, go_sem, k0, k1, k2]
theorem res_wp {fn : Func} {p : Tmp} {tmps : Array Value} {w : World} {g : Nat} {t : TypeId} {a b c : Value} (h : fn.results = #[.cell p 53]) (hp : tmps.getD p undef = .pointer (some ⟨g, 0, none⟩)) (hr : Row w g t #[a, b, c]) : (results fn tmps).run Try.prog w = .ok (.agg #[a, b, c]) w := by
  have hl := load_wp hr
  have ha := asAddr_ptr (w := w) hp
  simp only [results, h]
  simp [Sem.run_bind, Result.andThen, ha, hl, -Array.getD_eq_getD_getElem?]
set_option maxRecDepth 100000 in
set_option maxHeartbeats 4000000 in
theorem fits_any (off : Int) (s : ByteArray) (y : Bool) (n : Nat) (o1 : -9223372036854775808 ≤ off) (o2 : off ≤ 9223372036854775807) (hs : s.size ≤ 9223372036854775807) (hn : n ≤ 4194304) (w : World) :
    Calls Try.prog 26 #[.agg #[.int .i64 off, .string s, .bool y], .int .i64 n] w fun e w' => e = .returned (.agg #[.int .i64 (fitP n off s).1, .string (fitP n off s).2, .bool y]) ∧ Below w.heap.size w w' := by
  have hp := fun W => pickn_any off (n + 1) o1 o2 (by omega) (by omega) W
  have hlt := pkn_lt (c := off) (n := n + 1) (by omega)
  unfold fitP
  dsimp only
  generalize pkn off (n + 1) = k at *
  have hc := fun W => cut_s s (n - k) hs W
  generalize cutB s (n - k) = S at *
  obtain ⟨W0, hW0⟩ : ∃ W0, W0 = (w.alloc (.cells #[.int .i64 off, .string s, .bool y] 53)).alloc (.cells #[.int .i64 0, .string ⟨#[]⟩, .bool false] 53) := ⟨_, rfl⟩
  have rx : Row W0 w.heap.size 53 #[.int .i64 off, .string s, .bool y] := by rw [hW0]; exact (Row.made _ _ _).later _
  have ry : Row W0 (w.heap.size + 1) 53 #[.int .i64 0, .string ⟨#[]⟩, .bool false] := by rw [hW0]; exact Row.made_at _ _ _ (by simp)
  have b0 : Below w.heap.size w W0 := by rw [hW0]; exact keep_alloc (below_alloc _ _) _
  obtain ⟨x0, x1, x2, f0, f1, f2⟩ := rx.three
  rw [show (((n + 1 : Nat) : Int)) = (n : Int) + 1 from by omega] at hp
  have HP := Lib.hid hp; have HC := Lib.hid hc; have RX := Lib.hid rx; have RY := Lib.hid ry; have B0 := Lib.hid b0
  clear hp hc rx ry b0
  go_enter Try.func26, Try.ntmps26
  go_upto_region 1 with (fail)
  rw [← hW0]
  clear hW0
  go_upto_region 2 with (go_at_call 15; (with_reducible refine (HP.out _).mono ?_); rintro e w1 ⟨rfl, rfl⟩)
  rename_i W0
  obtain ⟨W1, hW1⟩ : ∃ W1, W1 = w1.setCell ⟨w.heap.size, 0, none⟩ (.int .i64 k) := ⟨_, rfl⟩
  rw [← hW1]
  have rx : Row W1 w.heap.size 53 #[.int .i64 k, .string s, .bool y] := by rw [hW1]; exact RX.out.stored 0 _
  have ry : Row W1 (w.heap.size + 1) 53 #[.int .i64 0, .string ⟨#[]⟩, .bool false] := by rw [hW1]; exact RY.out.aside (p := ⟨w.heap.size, 0, none⟩) (by show w.heap.size ≠ w.heap.size + 1; omega) _
  have b1 : Below w.heap.size w W1 := by rw [hW1]; exact B0.out.setCell (p := ⟨w.heap.size, 0, none⟩) (Nat.le_refl _) _
  clear x0 x1 x2 f0 f1 f2 RX RY B0 hW1
  obtain ⟨x0, x1, x2, f0, f1, f2⟩ := rx.three
  have hcast : (n : Int) - (k : Int) = ((n - k : Nat) : Int) := by omega
  have RX := Lib.hid rx; have RY := Lib.hid ry; have B0 := Lib.hid b1
  clear rx ry b1
  go_upto_region 3 with (go_at_call 22; (with_reducible refine (HC.out _).mono ?_); rintro e w1 ⟨rfl, rfl⟩)
  clear hcast
  obtain ⟨W2, hW2⟩ : ∃ W1, W1 = w1.setCell ⟨w.heap.size, 1, none⟩ (.string S) := ⟨_, rfl⟩
  rw [← hW2]
  have rx : Row W2 w.heap.size 53 #[.int .i64 k, .string S, .bool y] := by rw [hW2]; exact RX.out.stored 1 _
  have ry : Row W2 (w.heap.size + 1) 53 #[.int .i64 0, .string ⟨#[]⟩, .bool false] := by rw [hW2]; exact RY.out.aside (p := ⟨w.heap.size, 1, none⟩) (by show w.heap.size ≠ w.heap.size + 1; omega) _
  have b1 : Below w.heap.size w W2 := by rw [hW2]; exact B0.out.setCell (p := ⟨w.heap.size, 1, none⟩) (Nat.le_refl _) _
  clear x0 x1 x2 f0 f1 f2 RX RY B0 hW2
  obtain ⟨x0, x1, x2, _, _, _⟩ := rx.three
  obtain ⟨y0, y1, y2, f0, f1, f2⟩ := ry.three
  have RY := Lib.hid ry; have B0 := Lib.hid b1
  clear rx ry b1
  go_wp2
  refine bodyPost_ret (res_wp rfl rfl (((RY.out.stored 0 _).stored 1 _).stored 2 _)) rfl ?_
  exact ⟨rfl, ((B0.out.setCell (p := ⟨w.heap.size + 1, 0, none⟩) (Nat.le_succ _) _).setCell (p := ⟨w.heap.size + 1, 1, none⟩) (Nat.le_succ _) _).setCell (p := ⟨w.heap.size + 1, 2, none⟩) (Nat.le_succ _) _⟩
theorem splice_len {cur : List UInt8} {off k : Nat} {s : List UInt8} (h : off + s.length ≤ cur.length) : (splice cur off (s.take k)).length = cur.length := length_splice _ _ _ (by rw [List.length_take]; omega)
theorem splice_step {cur : List UInt8} {off k : Nat} {s : List UInt8} (h : off + s.length ≤ cur.length) (hk : k < s.length) : (splice cur off (s.take k)).set (off + k) s[k] = splice cur off (s.take (k + 1)) := by
  unfold splice
  have l1 : (cur.take off).length = off := by rw [List.length_take]; omega
  have l2 : (s.take k).length = k := by rw [List.length_take]; omega
  have l3 : (s.take (k + 1)).length = k + 1 := by rw [List.length_take]; omega
  rw [List.set_append_right _ _ (by omega), l1, Nat.add_sub_cancel_left, List.set_append_right _ _ (by omega), l2, Nat.sub_self, l3, List.take_succ_eq_append_getElem hk, List.append_assoc]
  congr 2
  rw [List.drop_eq_getElem_cons (by omega : off + k < cur.length)]
  rfl
theorem bytes_set (l : List UInt8) (i : Nat) (x : UInt8) : (byteCells l).toArray.setIfInBounds i (.int .u8 (x.toNat : Int)) = (byteCells (l.set i x)).toArray := by
  apply Array.ext'
  simp [byteCells, List.map_set]
set_option maxRecDepth 100000 in
set_option maxHeartbeats 4000000 in
theorem put_any (gb n c : Nat) (cur : List UInt8) (hn : cur.length = n) (h63 : n ≤ 4194304) (off : Nat) (s : ByteArray) (hfit : off + s.size ≤ n) (w : World) (hr : Row w gb 5 (byteCells cur).toArray) :
    Calls Try.prog 27 #[.slice (some ⟨gb, 0, none⟩) n c, .int .i64 off, .string s] w fun e w' => e = .returned (.tuple #[]) ∧ Row w' gb 5 (byteCells (putB cur (off, s))).toArray ∧ Kept (· = gb) w w' := by
  have HR := Lib.hid hr; have HN := Lib.hid hn
  clear hr hn
  go_enter Try.func27, Try.ntmps27
  go_wp2
  go_loopg [6] s.size (fun kx s6 wr => ∃ k : Nat, s6 = .int .i64 (k : Int) ∧ k + kx = s.size ∧ Row wr gb 5 (byteCells (splice cur off ((bts s).take k))).toArray ∧ Kept (· = gb) w wr)
  case atStart => exact ⟨0, rfl, by omega, by simpa [splice] using HR.out, .refl _ _⟩
  case round =>
    clear HR
    obtain ⟨k, rfl, hk, hM, hK⟩ := hrel
    have hbl : (bts s).length = s.size := bts_len s
    by_cases hlt : k < s.size
    · have hkb : k < (bts s).length := by omega
      have hlen : (splice cur off ((bts s).take k)).length = n := by rw [splice_len (by rw [hbl, HN.out]; exact hfit), HN.out]
      have hst := splice_step (cur := cur) (off := off) (s := bts s) (k := k) (by rw [hbl, HN.out]; exact hfit) hkb
      have hx : (bts s)[k]'hkb = s[k]'hlt := rfl
      have c0 := hM.at (i := off + k) (v := .int .u8 ((splice cur off ((bts s).take k))[off + k]'(by omega)).toNat) (by
        rw [List.getElem?_toArray]
        have : off + k < (splice cur off ((bts s).take k)).length := by omega
        simp [byteCells, this])
      have f0 := hM.free (off + k)
      have nx : Row (wr.setCell ⟨gb, off + k, none⟩ (.int .u8 ((s[k]'hlt).toNat : Int))) gb 5 (byteCells (splice cur off ((bts s).take (k + 1)))).toArray := by
        rw [← hst, ← bytes_set]
        exact hM.stored (off + k) _
      have nk : Kept (· = gb) w (wr.setCell ⟨gb, off + k, none⟩ (.int .u8 ((s[k]'hlt).toNat : Int))) := hK.setCell (p := ⟨gb, off + k, none⟩) (.inl rfl) _
      obtain ⟨z, hz⟩ : ∃ z, z = (splice cur off ((bts s).take k))[off + k]'(by omega) := ⟨_, rfl⟩
      rw [← hz] at c0
      have NX := Lib.hid nx; have NK := Lib.hid nk
      have hb : (s[k]'hlt).toNat < 256 := (s[k]'hlt).toNat_lt
      clear hst hM hK nx nk hx hz hlen hbl hkb
      go_wp2
      go_roundg (s.size - (k + 1))
      case measure => omega
      case rel => exact ⟨k + 1, by go_num, by omega, NX.out, NK.out⟩
    · obtain rfl : k = s.size := by omega
      have hall : (bts s).take s.size = bts s := List.take_of_length_le (by rw [hbl]; exact Nat.le_refl _)
      rw [hall] at hM
      have MM := Lib.hid hM
      clear hM hall hbl
      go_wp2
      go_end0
      exact ⟨rfl, MM.out, hK⟩
end Go.Proofs.Ytghcffpcblficaa
