/- wire.String: returns what the plain function of the mathematics' text says. -/
import Derived.Test.YtcmeplgkillbdaaDoorInts
namespace Go.Proofs.YtcmeplgkillbdaaDoor
open Go.RowKit

theorem stringS_eq (l : List UInt8) (k n next e : Int) (h : intS l k = (n, next, e)) : stringS l k = (if e = 0 then
      if n < 0 ∨ 65536 < n ∨ (l.length : Int) - next < n then ([], 0, 10) else ((l.drop next.toNat).take n.toNat, next + n, 0)
    else ([], 0, e)) := by rw [stringS, h]

theorem add_head (g j : Nat) : (⟨g, 0, none⟩ : Addr).add j = ⟨g, j, none⟩ := by unfold Addr.add; split <;> simp_all
/-- A copy of a string's bytes and back. -/
theorem copy_back (t : ByteArray) (w : World) : ∃ v c, (convert 9 38 (.string t)).run Tryd.prog w = .ok v c ∧ (convert 38 9 v).run Tryd.prog c = .ok (.string t) c ∧ Below w.heap.size w c := by
  have h := run_bytes_of_string (P := Tryd.prog) w 9 38 5 t Tryd.underlying9 Tryd.underlying38 Tryd.underlying5
  refine ⟨_, _, h, ?_, ((Below.refl _ w).drew).alloc (Nat.le_refl _) _⟩
  have hb := run_convert_bytes_back (P := Tryd.prog) (w.drew.alloc (.cells (bytesRow t (grownCap w t.size 0 5)) 5 ((bytesRow t (grownCap w t.size 0 5)).size, (bytesRow t (grownCap w t.size 0 5)).size + 1))) 38 9 5 ⟨w.heap.size, 0, none⟩ (grownCap w t.size 0 5) t.data.toList
    Tryd.underlying38 Tryd.underlying5 Tryd.underlying9 (by
      intro j hj
      rw [add_head]
      have := World.cell?_alloc_mark w.drew (bytesRow t (grownCap w t.size 0 5)) 5 ((bytesRow t (grownCap w t.size 0 5)).size, (bytesRow t (grownCap w t.size 0 5)).size + 1) j
      refine Eq.trans this ?_
      have hj' : j < t.data.size := by simpa using hj
      unfold bytesRow
      rw [Array.getElem?_append_left (by simpa using hj')]
      simp
      exact ⟨_, Array.getElem?_eq_getElem hj', rfl⟩)
  rw [len_data] at hb
  exact hb

set_option maxRecDepth 100000 in
theorem string_any (s : ByteArray) (k : Int) (k1 : -9223372036854775808 ≤ k) (k2 : k ≤ 9223372036854775807) (hs : s.size ≤ 9223372036854775807) (w : World) :
    Calls Tryd.prog 17 #[.string s, .int .i64 k] w fun e w' => e = .returned (strV (stringS s.data.toList k)) ∧ Below w.heap.size w w' := by
  have hl := len_data s
  obtain ⟨n, next, er, hi⟩ : ∃ n next er, intS s.data.toList k = (n, next, er) := ⟨_, _, _, rfl⟩
  have hS := stringS_eq _ _ _ _ _ hi
  have h0 := intS_err s.data.toList k
  rw [hi] at h0
  simp only at h0
  by_cases he : er = 0
  · subst he
    rw [if_pos rfl, hl] at hS
    obtain ⟨b1, b2, b3, b4, b5, b6⟩ := intS_ok hi
    unfold maxInt at b2 b3
    rw [hl] at b5
    have hnx : 0 ≤ next := by omega
    clear h0 b6 b4
    by_cases hn : n < 0 ∨ 65536 < n ∨ (s.size : Int) - next < n
    · rw [if_pos hn] at hS
      have HS := Lib.hid hS; have HI := Lib.hid hi; clear hS hi hl
      rcases hn with hn | hn | hn
      all_goals
        go_enter Tryd.func17, Tryd.ntmps17
        go_wp2_with (go_at_call 15; refine (int_any s k k1 k2 hs _).mono ?_; rw [HI.out]; rintro e w' ⟨rfl, rfl⟩; dsimp only [intV])
        all_goals go_ret3
        all_goals exact ⟨strV_mk HS.out rfl, Below.refl _ _⟩
    · rw [if_neg hn] at hS
      have hn1 : 0 ≤ n := by omega
      have hn2 : n ≤ 65536 := by omega
      have hn3 : n ≤ (s.size : Int) - next := by omega
      obtain ⟨n, rfl⟩ := Int.eq_ofNat_of_zero_le hn1
      obtain ⟨next, rfl⟩ := Int.eq_ofNat_of_zero_le hnx
      have HS := Lib.hid hS; have HI := Lib.hid hi; clear hS hi hl hn
      obtain ⟨v, c, g1, g2, g3⟩ := copy_back (s.extract next (next + n)) w
      go_enter Tryd.func17, Tryd.ntmps17
      go_wp2_with (go_at_call 15; refine (int_any s k k1 k2 hs _).mono ?_; rw [HI.out]; rintro e w' ⟨rfl, rfl⟩; dsimp only [intV])
      go_ret3
      refine ⟨strV_mk HS.out ?_, g3⟩
      simp [ByteArray.data_extract]
  · rw [if_neg he] at hS
    have he2 : er = 2 ∨ er = 10 := by omega
    have HS := Lib.hid hS; have HI := Lib.hid hi; clear hS hi hl h0
    have hb : (er != 0) = true := by rw [bne_iff_ne]; exact he
    go_enter Tryd.func17, Tryd.ntmps17
    go_wp2_with (go_at_call 15; refine (int_any s k k1 k2 hs _).mono ?_; rw [HI.out]; rintro e w' ⟨rfl, rfl⟩; dsimp only [intV])
    go_ret3
    exact ⟨strV_mk HS.out rfl, Below.refl _ _⟩
end Go.Proofs.YtcmeplgkillbdaaDoor
