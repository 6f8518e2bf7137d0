/- dialtonelaw02.sides. -/
import Derived.Test.YtjcamhekhfokhaaDoorSideM
namespace Go.Proofs.YtjcamhekhfokhaaDoor
open Go.RowKit

theorem wayRes_nil (w : World) (v : ByteArray) (n : Nat) : WayRes w ([], v) (.returned (.tuple #[.slice none 0 0, .string v])) (w.drewN n) := ⟨_, rfl, World.ownsRow_nil _ _ _ _, below_drawnN (Below.refl _ _) n⟩

set_option maxRecDepth 100000 in
set_option maxHeartbeats 2000000 in
theorem sides_old (old : ByteArray) (A : Option Addr) (c k m n : Nat) (wh : Bool) (hh : (n ≤ m ∧ wh = true) ∨ k = 0) (w : World) :
    Calls Tryd.prog 37 #[.string old, .int .i64 m, .int .i64 n, .slice A k c, .bool wh] w (WayRes w ([], old)) := by
  have hres := wayRes_nil w old 0
  have HRES := Lib.hid hres; clear hres
  by_cases h1 : n ≤ m
  · have i1 : (n : Int) ≤ (m : Int) := by omega
    cases wh with
    | true =>
      clear hh
      go_enter Tryd.func37, Tryd.ntmps37
      go_wp2
      go_ret2
      exact HRES.out
    | false =>
      obtain rfl : k = 0 := by simpa using hh
      clear hh
      go_enter Tryd.func37, Tryd.ntmps37
      go_wp2
      go_ret2
      exact HRES.out
  · have i1 : ¬ (n : Int) ≤ (m : Int) := by omega
    obtain rfl : k = 0 := by omega
    clear hh
    cases wh <;>
    (go_enter Tryd.func37, Tryd.ntmps37
     go_wp2
     go_ret2
     exact HRES.out)
set_option maxRecDepth 100000 in
set_option maxHeartbeats 2000000 in
theorem sides_first (old : ByteArray) (b o c k m n : Nat) (x : ByteArray) (h1 : n ≤ m) (hk : 0 < k) (w : World) (cx : w.cell? ⟨b, o, none⟩ = some (.string x)) :
    Calls Tryd.prog 37 #[.string old, .int .i64 m, .int .i64 n, .slice (some ⟨b, o, none⟩) k c, .bool false] w (WayRes w ([], x)) := by
  have hres := wayRes_nil w x
  have HRES := Lib.hid hres; clear hres
  have i1 : (n : Int) ≤ (m : Int) := by omega
  have g0 : ((k : Int) == 0) = false := by rw [beq_eq_false_iff_ne]; omega
  have k1 : (0 : Int) < (k : Int) := by omega
  go_enter Tryd.func37, Tryd.ntmps37
  go_wp2
  go_quiet (fail)
  go_wp2
  go_ret2
  exact HRES.out _

set_option maxRecDepth 100000 in
set_option maxHeartbeats 2000000 in
theorem sides_any (old : ByteArray) (ho : old.size ≤ 1000) : ∀ (r : List ByteArray) (A : Option Addr) (c k m n : Nat) (wh : Bool) (w : World), r.length ≤ 100 → k = r.length → k ≤ c → c ≤ 9223372036854775807 → n ≤ 9223372036854775807 → 1 ≤ m → m ≤ n → Tab w → Strs w w.heap.size A r.reverse → (∀ x ∈ r, x.size ≤ 1000) →
    Calls Tryd.prog 37 #[.string old, .int .i64 m, .int .i64 n, .slice A k c, .bool wh] w (WayRes w (sidesR old r m n wh)) := by
  intro r
  induction r with
  | nil =>
    intro A c k m n wh w hl hk hc hcm hnm h1m hmn ht hS hz
    exact sides_old old A c k m n wh (.inr hk) w
  | cons x r ih =>
    intro A c k m n wh w hl hk hc hcm hnm h1m hmn ht hS hz
    rw [sidesR_cons]
    have hk' : k = r.length + 1 := by simpa using hk
    by_cases h1 : n ≤ m
    · rw [if_pos h1]
      by_cases hw : wh = true
      · rw [if_pos hw]
        exact sides_old old A c k m n wh (.inl ⟨h1, hw⟩) w
      · rw [if_neg hw]
        obtain rfl : wh = false := by simpa using hw
        rw [List.reverse_cons] at hS
        obtain ⟨b, o, rfl, hB⟩ := strs_some hS (by simp)
        have hcell := strs_cell hS
        refine sides_first old b o c k m n _ h1 (by omega) w ?_
        have := hcell 0 ((r.reverse ++ [x]).headD ⟨#[]⟩) (by cases r.reverse <;> rfl)
        exact this
    rw [if_neg h1]
    have HT := Lib.hid ht
    have g0 : ((k : Int) == 0) = false := by rw [beq_eq_false_iff_ne]; omega
    have i1 : ¬ (n : Int) ≤ (m : Int) := by omega
    rw [List.reverse_cons] at hS
    obtain ⟨b, o, rfl, hB⟩ := strs_some hS (by simp)
    have hcell := strs_cell hS
    obtain ⟨q, hq⟩ : ∃ q, q = r.length := ⟨_, rfl⟩
    obtain rfl : k = q + 1 := by omega
    have cq : w.cell? ⟨b, o + q, none⟩ = some (.string x) := hcell q x (by rw [hq]; simp)
    have hst : Strs w w.heap.size (some ⟨b, o, none⟩) r.reverse := .inr ⟨b, o, rfl, hB, fun i s hi => hcell i s (by
      rw [List.getElem?_append_left (by
        rcases Nat.lt_or_ge i r.reverse.length with h | h
        · exact h
        · rw [List.getElem?_eq_none h] at hi; cases hi)]; exact hi)⟩
    have hx := hz x (by simp)
    have hzr : ∀ y ∈ r, y.size ≤ 1000 := fun y hy => hz y (by simp [hy])
    obtain ⟨h, hh⟩ : ∃ h, h = half n := ⟨_, rfl⟩
    have k1 : h < n := by rw [hh]; exact half_lt (by omega)
    have k0 : 0 < h := by rw [hh]; exact half_pos n
    have hfirst := fun w => left_big n (by omega) (by omega) w
    rw [← hh] at hfirst ⊢
    have S0 := Lib.hid hst
    obtain ⟨K1, hK1⟩ : ∃ K, K = q + 1 := ⟨_, rfl⟩
    rw [← hK1] at g0 hc ⊢
    have eq1 : IntKind.i64.wrap ((K1 : Int) - 1) = (q : Int) := by rw [IntWalk.i64_in _ (by omega)]; omega
    have q0 : (0 : Int) ≤ (q : Int) := by omega
    have q1 : (q : Int) < (K1 : Int) := by omega
    have q2 : (q : Int) ≤ (c : Int) := by omega
    have q3 : (K1 : Int) ≤ (c : Int) := by omega
    by_cases hlt : m ≤ h
    · rw [if_pos hlt]
      have hrec := fun W hW hSW => ih (some ⟨b, o, none⟩) c q m h wh W (by simp at hl; omega) hq (by omega) hcm (by omega) h1m hlt hW hSW hzr
      have hv := sidesR_small old ho r m h wh hzr
      have hln := sidesR_len old r m h wh
      obtain ⟨V, hV⟩ : ∃ V, V = sidesR old r m h wh := ⟨_, rfl⟩
      rw [← hV] at hrec hv hln ⊢
      obtain ⟨ls, v⟩ := V
      dsimp only at hv hln ⊢
      have hlt' : (m : Int) ≤ (h : Int) := by omega
      obtain ⟨T, hTT⟩ : ∃ T, nodeT v x = T := ⟨_, rfl⟩
      have hT2 : (⟨#[1]⟩ : ByteArray) ++ v ++ x = T := hTT
      rw [hTT]
      obtain ⟨m5, hm5⟩ : ∃ m, m = ls.length := ⟨_, rfl⟩
      have lm5 : 1 + m5 ≤ 1000 := by simp at hl; omega
      have HM5 := Lib.hid hm5
      clear ht hS hz hzr hk hk' ih hst hcell hh hq hV hTT hln hl hm5 hK1
      go_enter Tryd.func37, Tryd.ntmps37
      go_wp2_with fail
      refine (hfirst _).mono ?_
      rintro e w' ⟨rfl, rfl⟩
      go_wp2_with fail
      refine (hrec _ HT.out S0.out).mono ?_
      rintro e w5 ⟨v5, rfl, o5, b5⟩
      obtain ⟨A5, c5, rfl, s5, n5, m5'⟩ := own_strs_n ls HM5.out o5
      have a5 := below_alloc w5 (.cells #[.string T] 9)
      have S5 := Lib.hid ((s5.below a5).more a5.size)
      have O5 := own_new w5 #[.string T] 1 rfl (by decide)
      have q5 := below_step b5 a5
      have T5 := Lib.hid (HT.out.below b5)
      clear s5 o5
      go_wp2_with (first
        | (go_at_call 17; ((with_reducible refine (node_any v x (by omega) (by omega) _ T6.out).mono ?_); rintro e w7 ⟨rfl, b7⟩))
        | (at_builtin; (refine wpList_append_strs rfl _ _ rfl w5.heap.size _ 1 [T] rfl O5 A5 m5 c5 ls rfl HM5.out S5.out lm5 a5.size ?_; intro v6 w6 o6 g6; have b6 := keep_grown a5 g6 O5; have T6 := Lib.hid (T5.out.below b6))))
      go_ret2
      refine ⟨_, rfl, ?_, below_step (below_step b5 b6) b7⟩
      have hlen : (T :: ls).length = 1 + m5 := by rw [HM5.out]; simp; omega
      rw [hlen]
      exact own_less (own_over o6 b7) b5.size
    · rw [if_neg hlt]
      obtain ⟨n', hn'⟩ : ∃ n', n' = n - h := ⟨_, rfl⟩
      obtain ⟨i', hi'⟩ : ∃ i', i' = m - h := ⟨_, rfl⟩
      rw [← hn', ← hi']
      have hrec := fun W hW hSW => ih (some ⟨b, o, none⟩) c q i' n' false W (by simp at hl; omega) hq (by omega) hcm (by omega) (by omega) (by omega) hW hSW hzr
      have hv := sidesR_small old ho r i' n' false hzr
      have hln := sidesR_len old r i' n' false
      obtain ⟨V, hV⟩ : ∃ V, V = sidesR old r i' n' false := ⟨_, rfl⟩
      rw [← hV] at hrec hv hln ⊢
      obtain ⟨ls, v⟩ := V
      dsimp only at hv hln ⊢
      have hlt' : (h : Int) < (m : Int) := by omega
      have wn : IntKind.i64.wrap ((n : Int) - (h : Int)) = (n' : Int) := by rw [IntWalk.i64_in _ (by omega)]; omega
      have wi : IntKind.i64.wrap ((m : Int) - (h : Int)) = (i' : Int) := by rw [IntWalk.i64_in _ (by omega)]; omega
      have wn' : (n : Int) - (h : Int) = (n' : Int) := by omega
      have wi' : (m : Int) - (h : Int) = (i' : Int) := by omega
      obtain ⟨T, hTT⟩ : ∃ T, nodeT x v = T := ⟨_, rfl⟩
      have hT2 : (⟨#[1]⟩ : ByteArray) ++ x ++ v = T := hTT
      rw [hTT]
      obtain ⟨m5, hm5⟩ : ∃ m, m = ls.length := ⟨_, rfl⟩
      have lm5 : 1 + m5 ≤ 1000 := by simp at hl; omega
      have HM5 := Lib.hid hm5
      clear hn' hi' ht hS hz hzr hk hk' ih hst hcell hh hq hV hTT hln hl hm5 hK1
      go_enter Tryd.func37, Tryd.ntmps37
      go_wp2_with fail
      refine (hfirst _).mono ?_
      rintro e w' ⟨rfl, rfl⟩
      go_wp2_with fail
      refine (hrec _ HT.out S0.out).mono ?_
      rintro e w5 ⟨v5, rfl, o5, b5⟩
      obtain ⟨A5, c5, rfl, s5, n5, m5'⟩ := own_strs_n ls HM5.out o5
      have a5 := below_alloc w5 (.cells #[.string T] 9)
      have S5 := Lib.hid ((s5.below a5).more a5.size)
      have O5 := own_new w5 #[.string T] 1 rfl (by decide)
      have q5 := below_step b5 a5
      have T5 := Lib.hid (HT.out.below b5)
      clear s5 o5
      go_wp2_with (first
        | (go_at_call 17; ((with_reducible refine (node_any x v (by clear wn wi; omega) (by clear wn wi; omega) _ T6.out).mono ?_); rintro e w7 ⟨rfl, b7⟩))
        | (at_builtin; (refine wpList_append_strs rfl _ _ rfl w5.heap.size _ 1 [T] rfl O5 A5 m5 c5 ls rfl HM5.out S5.out lm5 a5.size ?_; intro v6 w6 o6 g6; have b6 := keep_grown a5 g6 O5; have T6 := Lib.hid (T5.out.below b6))))
      go_ret2
      refine ⟨_, rfl, ?_, below_step (below_step b5 b6) b7⟩
      have hlen : (T :: ls).length = 1 + m5 := by rw [HM5.out]; simp; omega
      rw [hlen]
      exact own_less (own_over o6 b7) b5.size
end Go.Proofs.YtjcamhekhfokhaaDoor
