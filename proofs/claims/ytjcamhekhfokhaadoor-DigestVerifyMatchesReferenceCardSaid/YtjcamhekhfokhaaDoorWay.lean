/- dialtonelaw02.way. -/
import Derived.Test.YtjcamhekhfokhaaDoorWayM
namespace Go.Proofs.YtjcamhekhfokhaaDoor
open Go.RowKit

set_option maxRecDepth 100000 in
theorem left_big (n : Nat) (h : 2 ≤ n) (hn : n ≤ 9223372036854775807) (w : World) :
    Calls Tryd.prog 38 #[.int .i64 n] w fun e w' => e = .returned (.int .i64 (half n)) ∧ w' = w := by
  go_enter Tryd.func38, Tryd.ntmps38
  go_wp2
  go_loopw [3] (fun v wr => ∃ j k : Nat, k = 2 ^ j ∧ k < n ∧ v = .int .i64 k ∧ wr = w) (fun v _ => n - (intOf v).toNat)
  case atStart => exact ⟨0, 1, rfl, by omega, rfl, rfl⟩
  case round =>
    obtain ⟨j, k, hk, hkn, rfl, rfl⟩ := hrel
    have hkp : 0 < k := by rw [hk]; exact Nat.two_pow_pos j
    obtain ⟨d, hd⟩ : ∃ d, d = n - k := ⟨_, rfl⟩
    have e1 : IntKind.i64.wrap ((n : Int) - (k : Int)) = (d : Int) := by rw [IntWalk.i64_in _ (by omega)]; omega
    have HK := Lib.hid hk
    by_cases hlt : k < d
    · clear hk
      have HD := Lib.hid hd; clear hd
      have e2 : IntKind.i64.wrap (2 * (k : Int)) = ((2 * k : Nat) : Int) := by have := HD.out; rw [IntWalk.i64_in _ (by omega)]; omega
      have j1 : (k : Int) < (d : Int) := by omega
      go_wp2
      have hd := HD.out
      refine ⟨⟨j + 1, 2 * k, by rw [HK.out, Nat.pow_succ, Nat.mul_comm], by omega, by simp⟩, ?_⟩
      simp only [intOf]; omega
    · have hh : half n = k := by rw [hk]; exact half_is (by omega) (by omega)
      have HD := Lib.hid hd; have HH := Lib.hid hh; clear hd hk hh
      have j1 : ¬ (k : Int) < (d : Int) := by omega
      go_wp2
      go_ret
      exact ⟨by rw [HH.out]; rfl, rfl⟩

def WayRes (w : World) (r : List ByteArray × ByteArray) (e : Ending) (w' : World) : Prop := ∃ v, e = .returned (.tuple #[v, .string r.2]) ∧ w'.ownsRow w.heap.size 9 1 v r.1.length (r.1.map Value.string) ∧ Below w.heap.size w w'

set_option maxRecDepth 100000 in
set_option maxHeartbeats 2000000 in
theorem way_leaf (s : ByteArray) (hs : s.size ≤ 1000) (A : Option Addr) (c k n i : Nat) (h01 : n ≤ 1 ∨ k = 0) (w : World) (ht : Tab w) :
    Calls Tryd.prog 34 #[.int .i64 n, .int .i64 i, .string s, .slice A k c] w (WayRes w ([leafT s], leafS s)) := by
  have HT := Lib.hid ht; clear ht
  have o1 := own_new w #[.string (leafT s)] 1 rfl (by decide)
  have b0 := below_alloc w (.cells #[.string (leafT s)] 9)
  have T0 := Lib.hid (HT.out.below b0)
  by_cases h1 : n ≤ 1
  · have i1 : (n : Int) ≤ 1 := by omega
    go_enter Tryd.func34, Tryd.ntmps34
    go_wp2_with fail
    refine (leaf_any s (by omega) _ T0.out).mono ?_
    rintro e w1 ⟨rfl, b1⟩
    go_wp2_with fail
    go_ret2
    exact ⟨_, rfl, own_over o1 b1, below_step b0 b1⟩
  · have i1 : ¬ (n : Int) ≤ 1 := by omega
    obtain rfl : k = 0 := by omega
    go_enter Tryd.func34, Tryd.ntmps34
    go_wp2_with fail
    refine (leaf_any s (by omega) _ T0.out).mono ?_
    rintro e w1 ⟨rfl, b1⟩
    go_wp2_with fail
    go_ret2
    exact ⟨_, rfl, own_over o1 b1, below_step b0 b1⟩

set_option maxRecDepth 100000 in
set_option maxHeartbeats 2000000 in
theorem way_any (s : ByteArray) (hs : s.size ≤ 1000) : ∀ (r : List ByteArray) (A : Option Addr) (c k n i : Nat) (w : World), r.length ≤ 100 → k = r.length → k ≤ c → c ≤ 9223372036854775807 → n ≤ 9223372036854775807 → i < n → Tab w → Strs w w.heap.size A r.reverse → (∀ x ∈ r, x.size ≤ 1000) →
    Calls Tryd.prog 34 #[.int .i64 n, .int .i64 i, .string s, .slice A k c] w (WayRes w (wayR s r n i)) := by
  intro r
  induction r with
  | nil =>
    intro A c k n i w hl hk hc hcm hnm hi ht hS hz
    exact way_leaf s hs A c k n i (.inr hk) w ht
  | cons x r ih =>
    intro A c k n i w hl hk hc hcm hnm hi ht hS hz
    rw [wayR_cons]
    by_cases h1 : n ≤ 1
    · rw [if_pos h1]
      exact way_leaf s hs A c k n i (.inl h1) w ht
    rw [if_neg h1]
    have hk' : k = r.length + 1 := by simpa using hk
    have HT := Lib.hid ht
    have g0 : ((k : Int) == 0) = false := by rw [beq_eq_false_iff_ne]; omega
    have i1 : ¬ (n : Int) ≤ 1 := by omega
    rw [List.reverse_cons] at hS
    obtain ⟨b, o, rfl, hB⟩ := strs_some hS (by simp)
    have hcell := strs_cell hS
    obtain ⟨q, hq⟩ : ∃ q, q = r.length := ⟨_, rfl⟩
    obtain rfl : k = q + 1 := by omega
    have cq : w.cell? ⟨b, o + q, none⟩ = some (.string x) := hcell q x (by rw [hq]; simp)
    have hst : Strs w w.heap.size (some ⟨b, o, none⟩) r.reverse := .inr ⟨b, o, rfl, hB, fun i s hi => hcell i s (by
      rw [List.getElem?_append_left (by
        rcases Nat.lt_or_ge i r.reverse.length with h | h
        · exact h
        · rw [List.getElem?_eq_none h] at hi; cases hi)]; exact hi)⟩
    have hx := hz x (by simp)
    have hzr : ∀ y ∈ r, y.size ≤ 1000 := fun y hy => hz y (by simp [hy])
    obtain ⟨h, hh⟩ : ∃ h, h = half n := ⟨_, rfl⟩
    have k1 : h < n := by rw [hh]; exact half_lt (by omega)
    have k0 : 0 < h := by rw [hh]; exact half_pos n
    have hfirst := fun w => left_big n (by omega) (by omega) w
    rw [← hh] at hfirst ⊢
    have S0 := Lib.hid hst
    obtain ⟨K1, hK1⟩ : ∃ K, K = q + 1 := ⟨_, rfl⟩
    rw [← hK1] at g0 hc ⊢
    have eq1 : IntKind.i64.wrap ((K1 : Int) - 1) = (q : Int) := by rw [IntWalk.i64_in _ (by omega)]; omega
    have q0 : (0 : Int) ≤ (q : Int) := by omega
    have q1 : (q : Int) < (K1 : Int) := by omega
    have q2 : (q : Int) ≤ (c : Int) := by omega
    have q3 : (K1 : Int) ≤ (c : Int) := by omega
    by_cases hlt : i < h
    · rw [if_pos hlt]
      have hrec := fun W hW hSW => ih (some ⟨b, o, none⟩) c q h i W (by simp at hl; omega) hq (by omega) hcm (by omega) hlt hW hSW hzr
      have hv := wayR_size s r h i
      have hln := wayR_len s r h i
      obtain ⟨V, hV⟩ : ∃ V, V = wayR s r h i := ⟨_, rfl⟩
      rw [← hV] at hrec hv hln ⊢
      obtain ⟨ls, v⟩ := V
      dsimp only at hv hln ⊢
      have hlt' : (i : Int) < (h : Int) := by omega
      obtain ⟨T, hTT⟩ : ∃ T, nodeT v x = T := ⟨_, rfl⟩
      have hT2 : (⟨#[1]⟩ : ByteArray) ++ v ++ x = T := hTT
      rw [hTT]
      obtain ⟨m5, hm5⟩ : ∃ m, m = ls.length := ⟨_, rfl⟩
      have lm5 : 1 + m5 ≤ 1000 := by simp at hl; omega
      have HM5 := Lib.hid hm5
      clear ht hS hz hzr hk hk' ih hst hcell hh hq hV hTT hln hl hm5 hK1
      go_enter Tryd.func34, Tryd.ntmps34
      go_wp2_with fail
      refine (hfirst _).mono ?_
      rintro e w' ⟨rfl, rfl⟩
      go_wp2_with fail
      refine (hrec _ HT.out S0.out).mono ?_
      rintro e w5 ⟨v5, rfl, o5, b5⟩
      obtain ⟨A5, c5, rfl, s5, n5, m5'⟩ := own_strs_n ls HM5.out o5
      have a5 := below_alloc w5 (.cells #[.string T] 9)
      have S5 := Lib.hid ((s5.below a5).more a5.size)
      have O5 := own_new w5 #[.string T] 1 rfl (by decide)
      have q5 := below_step b5 a5
      have T5 := Lib.hid (HT.out.below b5)
      clear s5 o5
      go_wp2_with (first
        | (go_at_call 17; ((with_reducible refine (node_any v x (by omega) (by omega) _ T6.out).mono ?_); rintro e w7 ⟨rfl, b7⟩))
        | (at_builtin; (refine wpList_append_strs rfl _ _ rfl w5.heap.size _ 1 [T] rfl O5 A5 m5 c5 ls rfl HM5.out S5.out lm5 a5.size ?_; intro v6 w6 o6 g6; have b6 := keep_grown a5 g6 O5; have T6 := Lib.hid (T5.out.below b6))))
      go_ret2
      refine ⟨_, rfl, ?_, below_step (below_step b5 b6) b7⟩
      have hlen : (T :: ls).length = 1 + m5 := by rw [HM5.out]; simp; omega
      rw [hlen]
      exact own_less (own_over o6 b7) b5.size
    · rw [if_neg hlt]
      obtain ⟨n', hn'⟩ : ∃ n', n' = n - h := ⟨_, rfl⟩
      obtain ⟨i', hi'⟩ : ∃ i', i' = i - h := ⟨_, rfl⟩
      rw [← hn', ← hi']
      have hrec := fun W hW hSW => ih (some ⟨b, o, none⟩) c q n' i' W (by simp at hl; omega) hq (by omega) hcm (by omega) (by omega) hW hSW hzr
      have hv := wayR_size s r n' i'
      have hln := wayR_len s r n' i'
      obtain ⟨V, hV⟩ : ∃ V, V = wayR s r n' i' := ⟨_, rfl⟩
      rw [← hV] at hrec hv hln ⊢
      obtain ⟨ls, v⟩ := V
      dsimp only at hv hln ⊢
      have hlt' : (h : Int) ≤ (i : Int) := by omega
      have wn : IntKind.i64.wrap ((n : Int) - (h : Int)) = (n' : Int) := by rw [IntWalk.i64_in _ (by omega)]; omega
      have wi : IntKind.i64.wrap ((i : Int) - (h : Int)) = (i' : Int) := by rw [IntWalk.i64_in _ (by omega)]; omega
      have wn' : (n : Int) - (h : Int) = (n' : Int) := by omega
      have wi' : (i : Int) - (h : Int) = (i' : Int) := by omega
      obtain ⟨T, hTT⟩ : ∃ T, nodeT x v = T := ⟨_, rfl⟩
      have hT2 : (⟨#[1]⟩ : ByteArray) ++ x ++ v = T := hTT
      rw [hTT]
      obtain ⟨m5, hm5⟩ : ∃ m, m = ls.length := ⟨_, rfl⟩
      have lm5 : 1 + m5 ≤ 1000 := by simp at hl; omega
      have HM5 := Lib.hid hm5
      clear hn' hi' ht hS hz hzr hk hk' ih hst hcell hh hq hV hTT hln hl hm5 hK1
      go_enter Tryd.func34, Tryd.ntmps34
      go_wp2_with fail
      refine (hfirst _).mono ?_
      rintro e w' ⟨rfl, rfl⟩
      go_wp2_with fail
      refine (hrec _ HT.out S0.out).mono ?_
      rintro e w5 ⟨v5, rfl, o5, b5⟩
      obtain ⟨A5, c5, rfl, s5, n5, m5'⟩ := own_strs_n ls HM5.out o5
      have a5 := below_alloc w5 (.cells #[.string T] 9)
      have S5 := Lib.hid ((s5.below a5).more a5.size)
      have O5 := own_new w5 #[.string T] 1 rfl (by decide)
      have q5 := below_step b5 a5
      have T5 := Lib.hid (HT.out.below b5)
      clear s5 o5
      go_wp2_with (first
        | (go_at_call 17; ((with_reducible refine (node_any x v (by clear wn wi; omega) (by clear wn wi; omega) _ T6.out).mono ?_); rintro e w7 ⟨rfl, b7⟩))
        | (at_builtin; (refine wpList_append_strs rfl _ _ rfl w5.heap.size _ 1 [T] rfl O5 A5 m5 c5 ls rfl HM5.out S5.out lm5 a5.size ?_; intro v6 w6 o6 g6; have b6 := keep_grown a5 g6 O5; have T6 := Lib.hid (T5.out.below b6))))
      go_ret2
      refine ⟨_, rfl, ?_, below_step (below_step b5 b6) b7⟩
      have hlen : (T :: ls).length = 1 + m5 := by rw [HM5.out]; simp; omega
      rw [hlen]
      exact own_less (own_over o6 b7) b5.size
end Go.Proofs.YtjcamhekhfokhaaDoor
