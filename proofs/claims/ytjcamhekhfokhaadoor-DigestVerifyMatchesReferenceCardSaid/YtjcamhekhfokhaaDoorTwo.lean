/- digest.twoValues, VerifyExtension. -/
import Derived.Test.YtjcamhekhfokhaaDoorVal
namespace Go.Proofs.YtjcamhekhfokhaaDoor
open Go.RowKit

/-- The two values of m, n, a proof (its last element first) and whole. -/
def twoR (old : ByteArray) : List ByteArray → Nat → Nat → Bool → ByteArray × ByteArray × Bool
  | [], m, n, whole => if m = n ∧ whole = true then (old, old, true) else (⟨#[]⟩, ⟨#[]⟩, false)
  | x :: r, m, n, whole => if m = n ∧ whole = true then (old, old, false) else if m = n then (x, x, r.isEmpty) else
      if m ≤ half n then ((twoR old r m (half n) whole).1, nodeS (twoR old r m (half n) whole).2.1 x, (twoR old r m (half n) whole).2.2)
      else (nodeS x (twoR old r (m - half n) (n - half n) false).1, nodeS x (twoR old r (m - half n) (n - half n) false).2.1, (twoR old r (m - half n) (n - half n) false).2.2)
theorem twoR_size (old : ByteArray) (ho : old.size ≤ 1000) : ∀ (r : List ByteArray) (m n : Nat) (b : Bool), (∀ x ∈ r, x.size ≤ 1000) → (twoR old r m n b).1.size ≤ 1000 ∧ (twoR old r m n b).2.1.size ≤ 1000
  | [], m, n, b, _ => by unfold twoR; split; exact ⟨ho, ho⟩; exact ⟨by decide, by decide⟩
  | x :: r, m, n, b, hz => by
    unfold twoR
    split
    · exact ⟨ho, ho⟩
    · split
      · exact ⟨hz x (by simp), hz x (by simp)⟩
      · split
        · exact ⟨(twoR_size old ho r m (half n) b (fun y hy => hz y (by simp [hy]))).1, by rw [nodeS_size]; decide⟩
        · exact ⟨by rw [nodeS_size]; decide, by rw [nodeS_size]; decide⟩
def tripV (v : ByteArray × ByteArray × Bool) : Value := .tuple #[.string v.1, .string v.2.1, .bool v.2.2]

set_option maxRecDepth 100000 in
set_option maxHeartbeats 1000000 in
theorem two_any (old : ByteArray) (ho : old.size ≤ 1000) : ∀ (r : List ByteArray) (A : Option Addr) (c k m n : Nat) (bb : Bool) (w : World), k = r.length → k ≤ c → c ≤ 9223372036854775807 → 1 ≤ m → m ≤ n → n ≤ 9223372036854775807 → Tab w → Strs w w.heap.size A r.reverse → (∀ x ∈ r, x.size ≤ 1000) →
    Calls Tryd.prog 52 #[.string old, .int .i64 m, .int .i64 n, .slice A k c, .bool bb] w fun e w' => e = .returned (tripV (twoR old r m n bb)) ∧ Below w.heap.size w w' := by
  intro r
  induction r with
  | nil =>
    intro A c k m n bb w hk hc hcm hm1 hmn hnm ht hS hz
    simp at hk
    subst hk
    by_cases h1 : m = n
    · subst h1
      have g0 : ((m : Int) == (m : Int)) = true := by simp
      cases bb
      · have e : twoR old [] m m false = (⟨#[]⟩, ⟨#[]⟩, false) := by rw [twoR, if_neg (by simp)]
        rw [e]
        clear ht hS hz e
        go_enter Tryd.func52, Tryd.ntmps52
        go_wp2
        go_ret3
        exact ⟨rfl, Below.refl _ _⟩
      · have e : twoR old [] m m true = (old, old, true) := by rw [twoR, if_pos (by simp)]
        rw [e]
        clear ht hS hz e
        go_enter Tryd.func52, Tryd.ntmps52
        go_wp2
        go_ret3
        exact ⟨rfl, Below.refl _ _⟩
    · have g0 : ((m : Int) == (n : Int)) = false := by rw [beq_eq_false_iff_ne]; omega
      have e : twoR old [] m n bb = (⟨#[]⟩, ⟨#[]⟩, false) := by rw [twoR, if_neg (fun h => h1 h.1)]
      rw [e]
      clear ht hS hz e
      go_enter Tryd.func52, Tryd.ntmps52
      go_wp2
      go_ret3
      exact ⟨rfl, Below.refl _ _⟩
  | cons x r ih =>
    intro A c k m n bb w hk hc hcm hm1 hmn hnm ht hS hz
    have hk' : k = r.length + 1 := by simpa using hk
    have HT := Lib.hid ht
    have g0 : ((k : Int) == 0) = false := by rw [beq_eq_false_iff_ne]; omega
    by_cases hw : m = n ∧ bb = true
    · obtain ⟨rfl, rfl⟩ := hw
      have g1 : ((m : Int) == (m : Int)) = true := by simp
      have e : twoR old (x :: r) m m true = (old, old, false) := by rw [twoR, if_pos (by simp)]
      rw [e]
      clear ht hS hz e hk hk' ih
      go_enter Tryd.func52, Tryd.ntmps52
      go_wp2
      go_ret3
      exact ⟨rfl, Below.refl _ _⟩
    · rw [List.reverse_cons] at hS
      obtain ⟨b, o, rfl, hB⟩ := strs_some hS (by simp)
      have hcell := strs_cell hS
      obtain ⟨q, hq⟩ : ∃ q, q = r.length := ⟨_, rfl⟩
      obtain rfl : k = q + 1 := by omega
      have hcut := fun W hW => cut_any b o c q r.reverse x W (by simpa using hq) hc hcm hW
      have hst : Strs w w.heap.size (some ⟨b, o, none⟩) r.reverse := .inr ⟨b, o, rfl, hB, fun i s hi => hcell i s (by
        rw [List.getElem?_append_left (by
          rcases Nat.lt_or_ge i r.reverse.length with h | h
          · exact h
          · rw [List.getElem?_eq_none h] at hi; cases hi)]; exact hi)⟩
      have hx := hz x (by simp)
      have hzr : ∀ y ∈ r, y.size ≤ 1000 := fun y hy => hz y (by simp [hy])
      have ht2 : ∀ (W : World) (m : Nat), W = w.drewN m → Tab W ∧ Strs W W.heap.size (some ⟨b, o, none⟩) r.reverse ∧ Below w.heap.size w W := by
        rintro W m rfl
        exact ⟨ht, hst, below_drawnN (Below.refl _ _) m⟩
      have H2 := Lib.hid ht2
      have HC2 := Lib.hid hcell
      by_cases h1 : m = n
      · subst h1
        have hbb : bb = false := by cases bb; rfl; exact absurd ⟨rfl, rfl⟩ hw
        subst hbb
        have g1 : ((m : Int) == (m : Int)) = true := by simp
        have e : twoR old (x :: r) m m false = (x, x, r.isEmpty) := by rw [twoR, if_neg (by simp), if_pos rfl]
        rw [e]
        have gq : r.isEmpty = ((q : Int) == 0) := by
          rw [hq]; cases r <;> simp; omega
        rw [gq]
        clear ht hS hz hzr e hk hk' ih hst hcell hq ht2 gq hw
        go_enter Tryd.func52, Tryd.ntmps52
        go_wp2_with fail
        refine (hcut _ HC2.out).mono ?_
        rintro e w1 ⟨rfl, m1, hm1⟩
        obtain ⟨t1, s1, b1⟩ := H2.out w1 m1 hm1
        clear t1 s1 hm1
        go_wp2
        go_ret3
        exact ⟨rfl, b1⟩
      · have g1 : ((m : Int) == (n : Int)) = false := by rw [beq_eq_false_iff_ne]; omega
        obtain ⟨h, hh⟩ : ∃ h, h = half n := ⟨_, rfl⟩
        have k1 : h < n := by rw [hh]; exact half_lt (by omega)
        have k0 : 0 < h := by rw [hh]; exact half_pos n
        have hfirst := fun w => first_any n (by omega) (by omega) w
        rw [← hh] at hfirst
        by_cases hlt : m ≤ h
        · have e : twoR old (x :: r) m n bb = ((twoR old r m h bb).1, nodeS (twoR old r m h bb).2.1 x, (twoR old r m h bb).2.2) := by rw [twoR, if_neg hw, if_neg h1, ← hh, if_pos hlt]
          have hrec := fun W hW hSW => ih (some ⟨b, o, none⟩) c q m h bb W hq (by omega) hcm hm1 hlt (by omega) hW hSW hzr
          have hv := twoR_size old ho r m h bb hzr
          rw [e]
          obtain ⟨V, hV⟩ : ∃ V, V = twoR old r m h bb := ⟨_, rfl⟩
          rw [← hV] at hrec hv ⊢
          obtain ⟨v, u, ok⟩ := V
          dsimp only [tripV] at hrec hv ⊢
          obtain ⟨hv1, hv2⟩ := hv
          have hlt' : (m : Int) ≤ (h : Int) := by omega
          clear ht hS hz hzr e hk hk' ih hst hcell hh hq hV ht2 hw
          go_enter Tryd.func52, Tryd.ntmps52
          go_wp2_with fail
          refine (hcut _ HC2.out).mono ?_
          rintro e w1 ⟨rfl, m1, hm1⟩
          obtain ⟨t1, s1, b1⟩ := H2.out w1 m1 hm1
          have T1 := Lib.hid t1; have S1 := Lib.hid s1; clear t1 s1 hm1
          go_wp2_with (first
            | (go_at_call 47; refine (hfirst _).mono ?_; rintro e w' ⟨rfl, rfl⟩)
            | (go_at_call 17; ((with_reducible refine (node_any u x (by omega) (by omega) _ t2.out).mono ?_); rintro e w3 ⟨rfl, b3⟩))
            | (go_at_call 52; ((with_reducible refine (hrec _ T1.out S1.out).mono ?_); rintro e w2 ⟨rfl, b2⟩; have q2 := below_step b1 b2; have t2 := Lib.hid (T1.out.below b2))))
          go_ret3
          exact ⟨rfl, below_step q2 b3⟩
        · obtain ⟨n', hn'⟩ : ∃ n', n' = n - h := ⟨_, rfl⟩
          obtain ⟨m', hm'⟩ : ∃ m', m' = m - h := ⟨_, rfl⟩
          have e : twoR old (x :: r) m n bb = (nodeS x (twoR old r m' n' false).1, nodeS x (twoR old r m' n' false).2.1, (twoR old r m' n' false).2.2) := by rw [twoR, if_neg hw, if_neg h1, ← hh, if_neg hlt, ← hn', ← hm']
          have hrec := fun W hW hSW => ih (some ⟨b, o, none⟩) c q m' n' false W hq (by omega) hcm (by omega) (by omega) (by omega) hW hSW hzr
          have hv := twoR_size old ho r m' n' false hzr
          rw [e]
          obtain ⟨V, hV⟩ : ∃ V, V = twoR old r m' n' false := ⟨_, rfl⟩
          rw [← hV] at hrec hv ⊢
          obtain ⟨v, u, ok⟩ := V
          dsimp only [tripV] at hrec hv ⊢
          obtain ⟨hv1, hv2⟩ := hv
          have hlt' : (h : Int) < (m : Int) := by omega
          have wn' : (n : Int) - (h : Int) = (n' : Int) := by omega
          have wm' : (m : Int) - (h : Int) = (m' : Int) := by omega
          clear hn' hm' ht hS hz hzr e hk hk' ih hst hcell hh hq hV ht2 hw
          go_enter Tryd.func52, Tryd.ntmps52
          go_wp2_with fail
          refine (hcut _ HC2.out).mono ?_
          rintro e w1 ⟨rfl, m1, hm1⟩
          obtain ⟨t1, s1, b1⟩ := H2.out w1 m1 hm1
          have T1 := Lib.hid t1; have S1 := Lib.hid s1; clear t1 s1 hm1
          go_wp2_with (first
            | (go_at_call 47; refine (hfirst _).mono ?_; rintro e w' ⟨rfl, rfl⟩)
            | (go_at_call 17; ((with_reducible refine (node_any x v (by omega) (by omega) _ t2.out).mono ?_); rintro e w3 ⟨rfl, b3⟩; have t3 := Lib.hid (t2.out.below b3); have q3 := below_step q2 b3))
            | (go_at_call 17; ((with_reducible refine (node_any x u (by omega) (by omega) _ t3.out).mono ?_); rintro e w4 ⟨rfl, b4⟩))
            | (go_at_call 52; ((with_reducible refine (hrec _ T1.out S1.out).mono ?_); rintro e w2 ⟨rfl, b2⟩; have q2 := below_step b1 b2; have t2 := Lib.hid (T1.out.below b2))))
          go_ret3
          exact ⟨rfl, below_step q3 b4⟩
end Go.Proofs.YtjcamhekhfokhaaDoor
