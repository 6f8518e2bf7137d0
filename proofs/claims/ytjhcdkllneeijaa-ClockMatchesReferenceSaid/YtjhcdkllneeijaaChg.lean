/- clock.changes: the ascending changes of spells. -/
import Derived.Test.YtjhcdkllneeijaaSort
import Derived.Laws.AppendOwn
namespace Go.Proofs.Ytjhcdkllneeijaa
open Go.RowKit
open Go.Sort (HoldsK)

/-- Spells that the caller holds: their cells lie below B. -/
def Sps (w : World) (B : Nat) (A : Option Addr) (l : List (Int × Int)) : Prop :=
  l = [] ∨ ∃ b o : Nat, A = some ⟨b, o, none⟩ ∧ b < B ∧ ∀ (i : Nat) (r : Int × Int), l[i]? = some r → w.cell? ⟨b, o + i * 2, none⟩ = some (.int .i64 r.1) ∧ w.cell? ⟨b, o + i * 2 + 1, none⟩ = some (.int .i64 r.2)
theorem Sps.below {w W : World} {B : Nat} {A : Option Addr} {l : List (Int × Int)} (h : Sps w B A l) (hb : Below B w W) : Sps W B A l := by
  rcases h with h | ⟨b, o, hA, hB, hc⟩
  · exact .inl h
  · exact .inr ⟨b, o, hA, hB, fun i r hr => by
      have := hc i r hr
      rw [hb.cell (p := ⟨b, o + i * 2, none⟩) hB, hb.cell (p := ⟨b, o + i * 2 + 1, none⟩) hB]
      exact this⟩
theorem Sps.more {w : World} {B B' : Nat} {A : Option Addr} {l : List (Int × Int)} (h : Sps w B A l) (hB' : B ≤ B') : Sps w B' A l := by
  rcases h with h | ⟨b, o, hA, hB, hc⟩
  · exact .inl h
  · exact .inr ⟨b, o, hA, Nat.lt_of_lt_of_le hB hB', hc⟩
theorem Sps.deep {w W : World} {A : Option Addr} {l : List (Int × Int)} (h : Sps w w.heap.size A l) (hb : Below w.heap.size w W) : Sps W W.heap.size A l := (h.below hb).more hb.size
theorem Sps.at {w : World} {B : Nat} {A : Option Addr} {l : List (Int × Int)} (h : Sps w B A l) {i : Nat} {r : Int × Int} (hr : l[i]? = some r) :
    ∃ b o : Nat, A = some ⟨b, o, none⟩ ∧ b < B ∧ w.cell? ⟨b, o + i * 2, none⟩ = some (.int .i64 r.1) ∧ w.cell? ⟨b, o + i * 2 + 1, none⟩ = some (.int .i64 r.2) := by
  rcases h with rfl | ⟨b, o, hA, hB, hc⟩
  · simp at hr
  · exact ⟨b, o, hA, hB, hc i r hr⟩
theorem chg_info : (Try.prog.info? 58).map (fun i => (i.zero, i.size, i.bytes)) = some (some (.agg #[.int .i64 0, .int .i64 0]), 2, 16) := by kernel_rfl
theorem chs_take {l : List (Int × Int)} {k : Nat} {x y : Int} (h : l[k]? = some (x, y)) : chs (l.take (k + 1)) = chs (l.take k) ++ (if x < y then [(x, 1), (y, -1)] else []) := by
  rw [List.take_add_one, h, chs_app]
  simp [chs]
theorem four_new (w : World) (a b c d : Value) (t : TypeId) : ∀ (j : Nat) (u : Value), [a, b, c, d][j]? = some u → (w.alloc (.cells #[a, b, c, d] t)).cell? ((⟨w.heap.size, 0, none⟩ : Addr).add j) = some u := by
  intro j u h
  have h2 := (Row.made w t #[a, b, c, d]).at (i := j) (v := u) (by simpa using h)
  by_cases h0 : j = 0
  · subst h0; exact h2
  · rw [show (⟨w.heap.size, 0, none⟩ : Addr).add j = ⟨w.heap.size, j, none⟩ by simp [Addr.add, h0]]; exact h2

set_option maxRecDepth 100000 in
set_option maxHeartbeats 8000000 in
theorem changes_any (l : List (Int × Int)) (hl : l.length ≤ 1000) (A : Option Addr) (c : Nat) (w : World) (hs : Sps w w.heap.size A l) :
    Calls Try.prog 33 #[.slice A l.length c] w fun e w' => Below w.heap.size w w' ∧
      ((chs l = [] ∧ e = .returned (.slice none 0 0)) ∨ ∃ (g cap : Nat) (d : List (Int × Int)), e = .returned (.slice (some ⟨g, 0, none⟩) d.length cap) ∧ chs l ≠ [] ∧ (chs l).Perm d ∧ Asc d ∧ HoldsK encC 2 w' g 0 d.toArray ∧ w.heap.size ≤ g ∧ g < w'.heap.size) := by
  obtain ⟨L, hL⟩ : ∃ L, L = l.length := ⟨_, rfl⟩
  rw [← hL]
  rw [← hL] at hl
  obtain ⟨i0, hi0, hz0, hz1, hz2⟩ := info_parts chg_info
  have HL := Lib.hid hL; have HS := Lib.hid hs
  clear hL hs
  go_enter Try.func33, Try.ntmps33
  go_wp2
  go_loopg [3, 5, 8] L (fun kx s3 s5 s8 wr => ∃ (k : Nat) (v : Value), s3 = v ∧ s8 = .int .i64 (k : Int) ∧ k + kx = L ∧ Below w.heap.size w wr ∧ Hid (wr.ownsRow w.heap.size 58 2 v (chs (l.take k)).length (flatC (chs (l.take k)))) ∧ Hid (chs (l.take k) = [] → v = .slice none 0 0))
  case atStart => exact ⟨0, _, rfl, rfl, by omega, Below.refl _ _, Lib.hid ⟨rfl, .inl ⟨rfl, rfl⟩⟩, Lib.hid fun _ => rfl⟩
  case round =>
    obtain ⟨k, v, rfl, rfl, hk, hb, I, E⟩ := hrel
    by_cases hlt : k < L
    · obtain ⟨⟨x, y⟩, hv⟩ : ∃ y, l[k]? = some y := ⟨l[k]'(by rw [← HL.out]; exact hlt), by simp⟩
      obtain ⟨bb, o, hA, hbb, e0, e1⟩ := (HS.out.below hb).at hv
      subst hA
      dsimp only at e0 e1
      have ht := chs_take hv
      have hlen := chs_len (l.take k)
      rw [List.length_take] at hlen
      have hbs := hb.size
      have HB := Lib.hid hb
      clear hb hv
      by_cases hxy : x < y
      · rw [if_pos hxy] at ht
        have HT := Lib.hid ht
        have h4 := four_new (wr.alloc (Obj.cells #[Value.int IntKind.i64 x, Value.int IntKind.i64 y] 32)) (.int .i64 x) (.int .i64 1) (.int .i64 y) (.int .i64 (-1)) 58
        rw [show (wr.alloc (Obj.cells #[Value.int IntKind.i64 x, Value.int IntKind.i64 y] 32)).heap.size = wr.heap.size + 1 by simp] at h4
        have H4 := Lib.hid h4
        clear ht h4
        go_wp2_with (at_builtin; refine wpList_append_own _ rfl _ _ 55 rfl w.heap.size 58 i0 (.agg #[.int .i64 0, .int .i64 0]) 2 16 Try.underlying55 hi0 hz0 hz1 hz2 rfl (by decide) _ _ _ rfl ((I.out.alloc _).alloc _) ⟨wr.heap.size + 1, 0, none⟩ 2 2 [.int .i64 x, .int .i64 1, .int .i64 y, .int .i64 (-1)] rfl rfl H4.out (by simp [Value.oneCell']) (by unfold maxLen; omega) (by omega) (by simp; omega) ?_; intro v' w1 hown' hgrow _)
        have hB1 : Below w.heap.size w w1 := keep_grown (keep_alloc (keep_alloc HB.out _) _) hgrow ((I.out.alloc _).alloc _)
        have HO := Lib.hid hown'; have HB1 := Lib.hid hB1
        clear hown' hgrow hB1
        go_roundg (L - (k + 1))
        case measure => omega
        case rel => exact ⟨k + 1, _, rfl, by go_num, by omega, HB1.out, Lib.hid (by rw [HT.out, flatC_app, List.length_append]; exact HO.out), Lib.hid fun h => by rw [HT.out] at h; simp at h⟩
      · rw [if_neg hxy, List.append_nil] at ht
        have HT := Lib.hid ht
        clear ht
        go_wp2
        go_roundg (L - (k + 1))
        case measure => omega
        case rel => exact ⟨k + 1, _, rfl, by go_num, by omega, keep_alloc HB.out _, Lib.hid (by rw [HT.out]; exact I.out.alloc _), Lib.hid fun h => E.out (by rw [← HT.out]; exact h)⟩
    · have hI := I.out
      rw [List.take_of_length_le (by rw [← HL.out]; omega)] at hI
      have hE := E.out
      rw [List.take_of_length_le (by rw [← HL.out]; omega)] at hE
      have HB := Lib.hid hb
      clear I hb E
      by_cases h0 : 0 < (chs l).length
      · obtain ⟨g, cap, rfl, hBg, hg, hH⟩ := own_holds (chs l) rfl h0 hI
        have hlen := chs_len l
        rw [← HL.out] at hlen
        have hc := sort_any g cap w.heap.size (chs l) wr hH hg hBg (by omega)
        obtain ⟨M, hM⟩ : ∃ M, M = (chs l).length := ⟨_, rfl⟩
        rw [← hM] at hc ⊢
        have HC := Lib.hid hc; have HM := Lib.hid hM
        have hne : chs l ≠ [] := fun h => by rw [h] at h0; simp at h0
        clear hc hI hH hM h0 hlen hE
        go_wp2_with (go_at_call 42; (refine HC.out.mono ?_); rintro e w2 ⟨rfl, d, hp, ha, hd, hg2, hb2⟩)
        go_ret
        have hdl : d.length = M := by rw [HM.out]; exact hp.length_eq.symm
        exact ⟨HB.out.trans hb2, .inr ⟨g, cap, d, by rw [hdl]; rfl, hne, hp, ha, hd, hBg, hg2⟩⟩
      · have hn : chs l = [] := by cases h : chs l with | nil => rfl | cons _ _ => rw [h] at h0; simp at h0
        obtain rfl := hE hn
        clear hI h0 hE
        go_wp2_with (go_at_call 42; (refine (sort_none _ _).mono ?_); rintro e w2 ⟨rfl, rfl⟩)
        go_ret
        exact ⟨HB.out, .inl ⟨hn, rfl⟩⟩
end Go.Proofs.Ytjhcdkllneeijaa
