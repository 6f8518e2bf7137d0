/- Hidden. -/
import Derived.Test.YtkeimfkaoianmaaAux
import Derived.Laws.AppendOwn
import Derived.Maps.AppendAt
import Derived.RangeFuncBox
namespace Go.Proofs.Ytkeimfkaoianmaa
open Go.RowKit

def intV (l : List Int) : List Value := l.map (Value.int .i64)
theorem intV_app (l m : List Int) : intV (l ++ m) = intV l ++ intV m := List.map_append
def hidN (N : Int) : Nat := (1 + pk N 8).toNat
def hid1 (H : List Int) (i : Nat) : Int := match H[i]? with | some x => pk x 200 - 100 | none => 0
def hidL (N : Int) (H : List Int) : List Int := (List.range (hidN N)).map (hid1 H)
theorem hidN_bd (N : Int) : 1 ≤ hidN N ∧ hidN N ≤ 8 := by have := pk_range (c := N) (n := 8) (by omega); unfold hidN; omega
theorem hidL_len (N : Int) (H : List Int) : (hidL N H).length = hidN N := by simp [hidL]
theorem hid1_bd (H : List Int) (i : Nat) : -100 ≤ hid1 H i ∧ hid1 H i ≤ 99 := by
  unfold hid1
  split
  · rename_i x _
    have := pk_range (c := x) (n := 200) (by omega)
    omega
  · omega
theorem hidL_bd {N : Int} {H : List Int} {i : Nat} {x : Int} (h : (hidL N H)[i]? = some x) : -100 ≤ x ∧ x ≤ 99 := by
  unfold hidL at h
  rw [List.getElem?_map] at h
  obtain ⟨j, _, rfl⟩ := Option.map_eq_some_iff.1 h
  exact hid1_bd H j
theorem hid_info : (Try.prog.info? 3).map (fun i => (i.zero, i.size, i.bytes)) = some (some (.int .i64 0), 1, 8) := by kernel_rfl
theorem own_intNums {X : World} {B g k cap : Nat} {l : List Int} (h : X.ownsRow B 3 1 (.slice (some ⟨g, 0, none⟩) k cap) k (intV l)) : Nums X X.heap.size (some ⟨g, 0, none⟩) l := by
  have hlen := h.1
  rw [intV, List.length_map, Nat.mul_one] at hlen
  refine .inr ⟨g, 0, rfl, (h.lt g rfl).2, fun i r hr => ?_⟩
  have hi : i < k := by
    rcases Nat.lt_or_ge i l.length with h | h
    · omega
    · rw [List.getElem?_eq_none h] at hr; cases hr
  have := h.cellAt i (by omega)
  rw [Nat.zero_add, this, intV, List.getElem?_map, hr]; rfl

set_option maxRecDepth 100000 in
set_option maxHeartbeats 4000000 in
theorem hidden_any (N : Int) (H : List Int) (HA : Option Addr) (hc : Nat) (BA : Option Addr) (bl bc : Nat) (M : Int) (hN : In64 N) (hH : ∀ x ∈ H, In64 x) (_hHl : H.length ≤ 9223372036854775807) (w : World) (hr : Nums w w.heap.size HA H) :
    Calls Try.prog 26 #[nmV N HA H.length hc BA bl bc M] w fun e w' => ∃ g cap : Nat, e = .returned (.slice (some ⟨g, 0, none⟩) (hidN N) cap) ∧ w'.ownsRow w.heap.size 3 1 (.slice (some ⟨g, 0, none⟩) (hidN N) cap) (hidN N) (intV (hidL N H)) ∧ Below w.heap.size w w' := by
  obtain ⟨L, hL⟩ : ∃ L, L = H.length := ⟨_, rfl⟩
  rw [← hL]
  rw [← hL] at _hHl
  have p := fun W => rpick_any N 8 hN.1 hN.2 (by omega) (by omega) W
  have pr := pk_range (c := N) (n := 8) (by omega)
  obtain ⟨n, hn⟩ : ∃ n, n = hidN N := ⟨_, rfl⟩
  have hpn : pk N 8 = (n : Int) - 1 := by rw [hn]; unfold hidN; omega
  have hn1 : 1 ≤ n ∧ n ≤ 8 := by rw [hn]; exact hidN_bd N
  obtain ⟨n1, n8⟩ := hn1
  obtain ⟨P, hP⟩ : ∃ P, P = pk N 8 := ⟨_, rfl⟩
  rw [← hP] at p hpn pr
  have hlst : hidL N H = (List.range n).map (hid1 H) := by rw [hn]; rfl
  rw [hlst, ← hn]
  obtain ⟨i0, hi, hz0, hz1, hz2⟩ := info_parts hid_info
  obtain ⟨P0, P1⟩ := pr
  have HL := Lib.hid hL; have HRR := Lib.hid hr; have HP := Lib.hid p; have HPN := Lib.hid hpn; have HH := Lib.hid hH
  clear hL hr p hpn hH hn hlst hN hP
  unfold nmV
  have four : ∀ (W : World), Row (W.alloc (.cells #[.int .i64 N, .slice HA L hc, .slice BA bl bc, .int .i64 M] 25)) W.heap.size 25 #[.int .i64 N, .slice HA L hc, .slice BA bl bc, .int .i64 M] := fun W => Row.made _ _ _
  have FOUR := Lib.hid four
  clear four
  go_enter Try.func26, Try.ntmps26
  go_wp2
  go_loopg [3, 4, 5] n (fun kx s3 s4 s5 wr => ∃ k : Nat, s4 = .int .i64 (k : Int) ∧ k + kx = n ∧ wr.ownsRow w.heap.size 3 1 s3 k (intV ((List.range k).map (hid1 H))) ∧ Row wr w.heap.size 25 #[.int .i64 N, .slice HA L hc, .slice BA bl bc, .int .i64 M] ∧ Below w.heap.size w wr)
  case atStart => exact ⟨0, rfl, by omega, ⟨rfl, .inl ⟨rfl, rfl⟩⟩, FOUR.out w, below_alloc _ _⟩
  case round =>
    obtain ⟨k, rfl, hk, hO, hR, hb⟩ := hrel
    have c0 := hR.at (i := 0) rfl
    have c1 := hR.at (i := 1) rfl
    have rin := hR.inside
    by_cases hlt : k < n
    · have hP1 : (k : Int) < 1 + P := by have := HPN.out; omega
      obtain ⟨v, hv⟩ : ∃ v, v = hid1 H k := ⟨_, rfl⟩
      have q1 : k + 1 ≤ maxLen := by unfold maxLen; omega
      have q2 : (k + 1) * 8 ≤ 140737488355328 := by omega
      have q3 : ∀ (o : Obj), w.heap.size ≤ (wr.alloc o).heap.size := fun o => by simp; omega
      have hs1 : (List.range (k + 1)).map (hid1 H) = (List.range k).map (hid1 H) ++ [v] := by rw [List.range_succ, List.map_append, hv]; rfl
      have HS1 := Lib.hid hs1; have OO := Lib.hid hO; have RR := Lib.hid hR; have BB := Lib.hid hb; have Q3 := Lib.hid q3
      clear hs1 hO hR hb q3
      have fin : ∀ (v' : Value) (w5 : World), w5.ownsRow w.heap.size 3 1 v' (k + 1) (intV ((List.range k).map (hid1 H)) ++ [.int .i64 v]) → (wr.alloc (.cells #[.int .i64 v] 3)).grownBy w5 u3.ownBlock →
          w5.ownsRow w.heap.size 3 1 v' (k + 1) (intV ((List.range (k + 1)).map (hid1 H))) ∧ Row w5 w.heap.size 25 #[.int .i64 N, .slice HA L hc, .slice BA bl bc, .int .i64 M] ∧ Below w.heap.size w w5 := fun v' w5 ho hg => by
        refine ⟨by rw [HS1.out, intV_app]; exact ho, (RR.out.later _).grown hg (fun e => ?_), ?_⟩
        · rcases OO.out.2 with ⟨e0, _⟩ | ⟨g', cap, cur, e0, _, hg', _⟩
          · rw [e0] at e; simp [Value.ownBlock] at e
          · rw [e0] at e
            have e2 : w.heap.size = g' := by simpa [Value.ownBlock] using e
            rw [← e2] at hg'
            rw [show wr.heap[w.heap.size]? = _ from RR.out] at hg'
            injection hg' with hg'
            injection hg' with _ h2 _
            exact absurd h2 (by decide)
        · exact (BB.out.alloc (by have := RR.out.inside; omega) _).grown hg (by simp; omega) (fun j hj => (OO.out.lt j hj).1)
      have FIN := Lib.hid fin
      clear fin
      by_cases hkl : k < L
      · obtain ⟨x, hx⟩ : ∃ y, H[k]? = some y := at_lt (by rw [← HL.out]; exact hkl)
        obtain ⟨bb, o, hA, _, e0⟩ := (HRR.out.below BB.out).at hx
        subst hA
        obtain ⟨x0, x1⟩ := HH.out x (List.mem_of_getElem? hx)
        have px := fun W => rpick_any x 200 x0 x1 (by omega) (by omega) W
        have pxr := pk_range (c := x) (n := 200) (by omega)
        have hvx : v = pk x 200 - 100 := by rw [hv]; unfold hid1; rw [hx]
        obtain ⟨Q, hQ⟩ : ∃ Q, Q = pk x 200 := ⟨_, rfl⟩
        rw [← hQ] at px pxr hvx
        obtain ⟨z0, z1⟩ := pxr
        have PX := Lib.hid px
        clear px hx hQ hv
        subst hvx
        go_wp2_with (first
          | (go_at_call 38; (first | (with_reducible refine (HP.out _).mono ?_) | (with_reducible refine (PX.out _).mono ?_)); rintro e wx ⟨rfl, hwx⟩; have hwx := hwx.symm; subst hwx)
          | (at_builtin; refine wpList_append_own _ rfl _ _ 22 rfl w.heap.size 3 i0 (.int .i64 0) 1 8 Try.underlying22 hi hz0 hz1 hz2 rfl (by decide) _ _ _ rfl (OO.out.alloc _) ⟨wr.heap.size, 0, none⟩ 1 1 [.int .i64 (Q - 100)] rfl rfl (cell_one_new _ _ _) (by simp [Value.oneCell']) q1 q2 (Q3.out _) ?_; intro v' w5 own5 hg5 hn5; obtain ⟨g', cap', rfl⟩ := ownsRow_succ own5; have F5 := Lib.hid (FIN.out _ _ own5 hg5); clear own5 hg5 hn5))
        go_roundg (n - (k + 1))
        case measure => omega
        case rel => exact ⟨k + 1, by go_num, by omega, F5.out.1, F5.out.2.1, F5.out.2.2⟩
      · have hv0 : v = 0 := by rw [hv]; unfold hid1; rw [List.getElem?_eq_none (by rw [← HL.out]; omega)]
        clear hv
        subst hv0
        go_wp2_with (first
          | (go_at_call 38; (with_reducible refine (HP.out _).mono ?_); rintro e wx ⟨rfl, hwx⟩; have hwx := hwx.symm; subst hwx)
          | (at_builtin; refine wpList_append_own _ rfl _ _ 22 rfl w.heap.size 3 i0 (.int .i64 0) 1 8 Try.underlying22 hi hz0 hz1 hz2 rfl (by decide) _ _ _ rfl (OO.out.alloc _) ⟨wr.heap.size, 0, none⟩ 1 1 [.int .i64 0] rfl rfl (cell_one_new _ _ _) (by simp [Value.oneCell']) q1 q2 (Q3.out _) ?_; intro v' w5 own5 hg5 hn5; obtain ⟨g', cap', rfl⟩ := ownsRow_succ own5; have F5 := Lib.hid (FIN.out _ _ own5 hg5); clear own5 hg5 hn5))
        go_roundg (n - (k + 1))
        case measure => omega
        case rel => exact ⟨k + 1, by go_num, by omega, F5.out.1, F5.out.2.1, F5.out.2.2⟩
    · obtain rfl : k = n := by omega
      have hP1 : ¬ ((k : Int) < 1 + P) := by have := HPN.out; omega
      obtain ⟨g, cap, rfl⟩ : ∃ g cap, u3 = .slice (some ⟨g, 0, none⟩) k cap := by
        rcases hO.2 with ⟨_, e⟩ | ⟨g, cap, _, e, _⟩
        · omega
        · exact ⟨g, cap, e⟩
      have OO := Lib.hid hO; have BB := Lib.hid hb
      clear hO hb hR
      go_wp2_with (go_at_call 38; (with_reducible refine (HP.out _).mono ?_); rintro e wx ⟨rfl, hwx⟩; have hwx := hwx.symm; subst hwx)
      go_ret
      exact ⟨g, cap, rfl, OO.out, BB.out⟩
end Go.Proofs.Ytkeimfkaoianmaa
