/- The reference's both and VerifyExtension. -/
import Derived.Test.YtjcamhekhfokhaaDoorRefV
import Derived.Test.YtjcamhekhfokhaaDoorVex
namespace Go.Proofs.YtjcamhekhfokhaaDoor
open Go.RowKit

/-- The reference's two values: where the proof has more elements than one for all entries, no values. -/
def bothR (old : ByteArray) : List ByteArray → Nat → Nat → Bool → ByteArray × ByteArray × Bool
  | [], m, n, whole => if m = n ∧ whole = true then (old, old, true) else (⟨#[]⟩, ⟨#[]⟩, false)
  | x :: r, m, n, whole => if m = n ∧ whole = true then (old, old, false) else if m = n then (if r.length = 0 then (x, x, true) else (⟨#[]⟩, ⟨#[]⟩, false)) else
      if m ≤ half n then ((bothR old r m (half n) whole).1, nodeS (bothR old r m (half n) whole).2.1 x, (bothR old r m (half n) whole).2.2)
      else (nodeS x (bothR old r (m - half n) (n - half n) false).1, nodeS x (bothR old r (m - half n) (n - half n) false).2.1, (bothR old r (m - half n) (n - half n) false).2.2)
theorem bothR_size (old : ByteArray) (ho : old.size ≤ 1000) : ∀ (r : List ByteArray) (m n : Nat) (b : Bool), (∀ x ∈ r, x.size ≤ 1000) → (bothR old r m n b).1.size ≤ 1000 ∧ (bothR old r m n b).2.1.size ≤ 1000
  | [], m, n, b, _ => by unfold bothR; split; exact ⟨ho, ho⟩; exact ⟨by decide, by decide⟩
  | x :: r, m, n, b, hz => by
    unfold bothR
    split
    · exact ⟨ho, ho⟩
    · split
      · split
        · exact ⟨hz x (by simp), hz x (by simp)⟩
        · exact ⟨by decide, by decide⟩
      · split
        · exact ⟨(bothR_size old ho r m (half n) b (fun y hy => hz y (by simp [hy]))).1, by rw [nodeS_size]; decide⟩
        · exact ⟨by rw [nodeS_size]; decide, by rw [nodeS_size]; decide⟩
theorem bothR_cons (old x : ByteArray) (r : List ByteArray) (m n : Nat) (whole : Bool) : bothR old (x :: r) m n whole = if m = n ∧ whole = true then (old, old, false) else if m = n then (if r.length = 0 then (x, x, true) else (⟨#[]⟩, ⟨#[]⟩, false)) else
      if m ≤ half n then ((bothR old r m (half n) whole).1, nodeS (bothR old r m (half n) whole).2.1 x, (bothR old r m (half n) whole).2.2)
      else (nodeS x (bothR old r (m - half n) (n - half n) false).1, nodeS x (bothR old r (m - half n) (n - half n) false).2.1, (bothR old r (m - half n) (n - half n) false).2.2) := rfl
theorem twoR_cons (old x : ByteArray) (r : List ByteArray) (m n : Nat) (whole : Bool) : twoR old (x :: r) m n whole = if m = n ∧ whole = true then (old, old, false) else if m = n then (x, x, r.isEmpty) else
      if m ≤ half n then ((twoR old r m (half n) whole).1, nodeS (twoR old r m (half n) whole).2.1 x, (twoR old r m (half n) whole).2.2)
      else (nodeS x (twoR old r (m - half n) (n - half n) false).1, nodeS x (twoR old r (m - half n) (n - half n) false).2.1, (twoR old r (m - half n) (n - half n) false).2.2) := rfl
theorem both_two (old : ByteArray) : ∀ (r : List ByteArray) (m n : Nat) (b : Bool), (bothR old r m n b).2.2 = (twoR old r m n b).2.2 ∧ ((twoR old r m n b).2.2 = true → bothR old r m n b = twoR old r m n b)
  | [], m, n, b => ⟨rfl, fun _ => rfl⟩
  | x :: r, m, n, b => by
    rw [bothR_cons, twoR_cons]
    by_cases h1 : m = n ∧ b = true
    · rw [if_pos h1, if_pos h1]; exact ⟨rfl, fun _ => rfl⟩
    · rw [if_neg h1, if_neg h1]
      by_cases h2 : m = n
      · rw [if_pos h2, if_pos h2]
        match r with
        | [] => exact ⟨rfl, fun _ => rfl⟩
        | y :: r' => exact ⟨rfl, fun h => by simp at h⟩
      · rw [if_neg h2, if_neg h2]
        by_cases h3 : m ≤ half n
        · rw [if_pos h3, if_pos h3]
          obtain ⟨h4, h5⟩ := both_two old r m (half n) b
          exact ⟨h4, fun h => by rw [h5 h]⟩
        · rw [if_neg h3, if_neg h3]
          obtain ⟨h4, h5⟩ := both_two old r (m - half n) (n - half n) false
          exact ⟨h4, fun h => by rw [h5 h]⟩
theorem both_ok (old rt : ByteArray) (r : List ByteArray) (m n : Nat) (b : Bool) :
    ((bothR old r m n b).2.2 && decide ((bothR old r m n b).1 = old) && decide ((bothR old r m n b).2.1 = rt)) = ((twoR old r m n b).2.2 && decide ((twoR old r m n b).1 = old) && decide ((twoR old r m n b).2.1 = rt)) := by
  obtain ⟨h1, h2⟩ := both_two old r m n b
  by_cases h : (twoR old r m n b).2.2 = true
  · rw [h2 h]
  · have h' : (twoR old r m n b).2.2 = false := by simpa using h
    rw [h1, h']; rfl

set_option maxRecDepth 100000 in
set_option maxHeartbeats 2000000 in
theorem refboth_any (old : ByteArray) (ho : old.size ≤ 1000) : ∀ (r : List ByteArray) (A : Option Addr) (c k m n : Nat) (bb : Bool) (w : World), k = r.length → k ≤ c → c ≤ 9223372036854775807 → 1 ≤ m → m ≤ n → n ≤ 9223372036854775807 → Strs w w.heap.size A r.reverse → (∀ x ∈ r, x.size ≤ 1000) →
    Calls Tryd.prog 53 #[.string old, .int .i64 m, .int .i64 n, .slice A k c, .bool bb] w fun e w' => e = .returned (tripV (bothR old r m n bb)) ∧ Below w.heap.size w w' := by
  intro r
  induction r with
  | nil =>
    intro A c k m n bb w hk hc hcm hm1 hmn hnm hS hz
    simp at hk
    subst hk
    by_cases h1 : m = n
    · subst h1
      have g0 : ((m : Int) == (m : Int)) = true := by simp
      cases bb
      · have e : bothR old [] m m false = (⟨#[]⟩, ⟨#[]⟩, false) := by rw [bothR, if_neg (by simp)]
        rw [e]
        clear hS hz e
        go_enter Tryd.func53, Tryd.ntmps53
        go_wp2
        go_ret3
        exact ⟨rfl, Below.refl _ _⟩
      · have e : bothR old [] m m true = (old, old, true) := by rw [bothR, if_pos (by simp)]
        rw [e]
        clear hS hz e
        go_enter Tryd.func53, Tryd.ntmps53
        go_wp2
        go_ret3
        exact ⟨rfl, Below.refl _ _⟩
    · have g0 : ((m : Int) == (n : Int)) = false := by rw [beq_eq_false_iff_ne]; omega
      have e : bothR old [] m n bb = (⟨#[]⟩, ⟨#[]⟩, false) := by rw [bothR, if_neg (fun h => h1 h.1)]
      rw [e]
      clear hS hz e
      go_enter Tryd.func53, Tryd.ntmps53
      go_wp2
      go_ret3
      exact ⟨rfl, Below.refl _ _⟩
  | cons x r ih =>
    intro A c k m n bb w hk hc hcm hm1 hmn hnm hS hz
    have hk' : k = r.length + 1 := by simpa using hk
    obtain ⟨q, hq⟩ : ∃ q, q = r.length := ⟨_, rfl⟩
    have eq1 : IntKind.i64.wrap ((k : Int) - 1) = (q : Int) := by rw [IntWalk.i64_in _ (by omega)]; omega
    have q0 : (0 : Int) ≤ (q : Int) := by omega
    have q1 : (q : Int) < (k : Int) := by omega
    have q2 : (q : Int) ≤ (c : Int) := by omega
    have q3 : (k : Int) ≤ (c : Int) := by omega
    by_cases hw : m = n ∧ bb = true
    · obtain ⟨rfl, rfl⟩ := hw
      have g1 : ((m : Int) == (m : Int)) = true := by simp
      have e : bothR old (x :: r) m m true = (old, old, false) := by rw [bothR, if_pos (by simp)]
      rw [e]
      clear hS hz e hk hk' ih hq
      go_enter Tryd.func53, Tryd.ntmps53
      go_wp2
      go_ret3
      exact ⟨rfl, Below.refl _ _⟩
    · rw [List.reverse_cons] at hS
      obtain ⟨b, o, rfl, hB⟩ := strs_some hS (by simp)
      have hcell := strs_cell hS
      have cq : w.cell? ⟨b, o + q, none⟩ = some (.string x) := hcell q x (by rw [hq]; simp)
      have hst : Strs w w.heap.size (some ⟨b, o, none⟩) r.reverse := .inr ⟨b, o, rfl, hB, fun i s hi => hcell i s (by
        rw [List.getElem?_append_left (by
          rcases Nat.lt_or_ge i r.reverse.length with h | h
          · exact h
          · rw [List.getElem?_eq_none h] at hi; cases hi)]; exact hi)⟩
      have hx := hz x (by simp)
      have hzr : ∀ y ∈ r, y.size ≤ 1000 := fun y hy => hz y (by simp [hy])
      have HS := Lib.hid hst; have CQ := Lib.hid cq
      by_cases h1 : m = n
      · subst h1
        have hbb : bb = false := by cases bb; rfl; exact absurd ⟨rfl, rfl⟩ hw
        subst hbb
        have g1 : ((m : Int) == (m : Int)) = true := by simp
        by_cases hq0 : q = 0
        · have e : bothR old (x :: r) m m false = (x, x, true) := by rw [bothR_cons, if_neg (by simp), if_pos rfl, if_pos (by rw [← hq]; exact hq0)]
          rw [e]
          rw [hq0, Nat.add_zero] at cq
          subst hq0
          have z1 : (0 : Int) < (k : Int) := by omega
          clear hS hz hzr e hk hk' ih hst hcell hq hw
          go_enter Tryd.func53, Tryd.ntmps53
          go_wp2
          go_quiet (fail)
          go_wp2
          go_ret3
          exact ⟨rfl, below_drawnN (Below.refl _ _) _⟩
        · have e : bothR old (x :: r) m m false = (⟨#[]⟩, ⟨#[]⟩, false) := by rw [bothR_cons, if_neg (by simp), if_pos rfl, if_neg (by rw [← hq]; exact hq0)]
          have g2 : ((q : Int) == 0) = false := by rw [beq_eq_false_iff_ne]; omega
          rw [e]
          clear hS hz hzr e hk hk' ih hst hcell hq hw
          go_enter Tryd.func53, Tryd.ntmps53
          go_wp2
          go_ret3
          exact ⟨rfl, Below.refl _ _⟩
      · have g1 : ((m : Int) == (n : Int)) = false := by rw [beq_eq_false_iff_ne]; omega
        obtain ⟨h, hh⟩ : ∃ h, h = half n := ⟨_, rfl⟩
        have k1 : h < n := by rw [hh]; exact half_lt (by omega)
        have k0 : 0 < h := by rw [hh]; exact half_pos n
        have hfirst := fun w => refleft_eq n (by omega) (by omega) w
        rw [← hh] at hfirst
        by_cases hlt : m ≤ h
        · have e : bothR old (x :: r) m n bb = ((bothR old r m h bb).1, nodeS (bothR old r m h bb).2.1 x, (bothR old r m h bb).2.2) := by rw [bothR_cons, if_neg hw, if_neg h1, ← hh, if_pos hlt]
          have hrec := fun W hSW => ih (some ⟨b, o, none⟩) c q m h bb W hq (by omega) hcm hm1 hlt (by omega) hSW hzr
          have hv := bothR_size old ho r m h bb hzr
          rw [e]
          obtain ⟨V, hV⟩ : ∃ V, V = bothR old r m h bb := ⟨_, rfl⟩
          rw [← hV] at hrec hv ⊢
          obtain ⟨v, u, ok⟩ := V
          dsimp only [tripV] at hrec hv ⊢
          obtain ⟨hv1, hv2⟩ := hv
          have hlt' : (m : Int) ≤ (h : Int) := by omega
          clear hS hz hzr e hk hk' ih hst hcell hh hq hV hw cq
          go_enter Tryd.func53, Tryd.ntmps53
          go_wp2_with fail
          refine (hfirst _).mono ?_
          rintro e w' ⟨rfl, rfl⟩
          go_wp2_with fail
          refine (hrec _ HS.out).mono ?_
          rintro e w2 ⟨rfl, b2⟩
          have c2 := (b2.cell (p := ⟨b, o + q, none⟩) hB).trans CQ.out
          go_wp2_with fail
          refine (refnode_any u x (by omega) (by omega) _).mono ?_
          rintro e w3 ⟨rfl, b3⟩
          go_wp2_with fail
          go_ret3
          exact ⟨rfl, below_step b2 b3⟩
        · obtain ⟨n', hn'⟩ : ∃ n', n' = n - h := ⟨_, rfl⟩
          obtain ⟨m', hm'⟩ : ∃ m', m' = m - h := ⟨_, rfl⟩
          have e : bothR old (x :: r) m n bb = (nodeS x (bothR old r m' n' false).1, nodeS x (bothR old r m' n' false).2.1, (bothR old r m' n' false).2.2) := by rw [bothR_cons, if_neg hw, if_neg h1, ← hh, if_neg hlt, ← hn', ← hm']
          have hrec := fun W hSW => ih (some ⟨b, o, none⟩) c q m' n' false W hq (by omega) hcm (by omega) (by omega) (by omega) hSW hzr
          have hv := bothR_size old ho r m' n' false hzr
          rw [e]
          obtain ⟨V, hV⟩ : ∃ V, V = bothR old r m' n' false := ⟨_, rfl⟩
          rw [← hV] at hrec hv ⊢
          obtain ⟨v, u, ok⟩ := V
          dsimp only [tripV] at hrec hv ⊢
          obtain ⟨hv1, hv2⟩ := hv
          have hlt' : (h : Int) < (m : Int) := by omega
          have wn : IntKind.i64.wrap ((n : Int) - (h : Int)) = (n' : Int) := by rw [IntWalk.i64_in _ (by omega)]; omega
          have wm : IntKind.i64.wrap ((m : Int) - (h : Int)) = (m' : Int) := by rw [IntWalk.i64_in _ (by omega)]; omega
          have wn' : (n : Int) - (h : Int) = (n' : Int) := by omega
          have wm' : (m : Int) - (h : Int) = (m' : Int) := by omega
          have cV := fun W => refnode_any x v (by clear wn wm; omega) (by clear wn wm; omega) W
          have cU := fun W => refnode_any x u (by clear wn wm; omega) (by clear wn wm; omega) W
          clear hn' hm' hS hz hzr e hk hk' ih hst hcell hh hq hV hw cq
          go_enter Tryd.func53, Tryd.ntmps53
          go_wp2_with fail
          refine (hfirst _).mono ?_
          rintro e w' ⟨rfl, rfl⟩
          go_wp2_with fail
          refine (hrec _ HS.out).mono ?_
          rintro e w2 ⟨rfl, b2⟩
          have c2 := (b2.cell (p := ⟨b, o + q, none⟩) hB).trans CQ.out
          have B2 : b < w2.heap.size := Nat.lt_of_lt_of_le hB b2.size
          have both : ∀ W, Below w2.heap.size w2 W → (Below w2.heap.size w2 W ∧ W.cell? ⟨b, o + q, none⟩ = some (.string x)) := fun W h => ⟨h, (h.cell (p := ⟨b, o + q, none⟩) B2).trans c2⟩
          have BOTH := Lib.hid both
          clear both
          go_wp2_with fail
          go_region_held3 (fun W => Below w2.heap.size w2 W ∧ W.cell? ⟨b, o + q, none⟩ = some (.string x))
            (first | assumption | exact BOTH.out _ (Below.refl _ _).drew | exact BOTH.out _ (below_step (And.left (by assumption)) (by assumption)))
            (first
              | (go_at_call 18; ((with_reducible refine (cV _).mono ?_); rintro e w3 ⟨rfl, b3⟩))
              | (go_at_call 18; ((with_reducible refine (cU _).mono ?_); rintro e w3 ⟨rfl, b3⟩)))
          go_wp2_with fail
          go_ret3
          exact ⟨rfl, below_step b2 (And.left (by assumption))⟩

theorem len_eq {a : ByteArray} (h : a.size = 32) : ((a.size : Int) == 32) = true := by rw [beq_iff_eq]; omega
theorem len_ne {a : ByteArray} (h : ¬ a.size = 32) : ((a.size : Int) == 32) = false := by rw [beq_eq_false_iff_ne]; omega
theorem len_eq' {a : ByteArray} (h : a.size = 32) : ((a.size : Int) != 32) = false := by rw [bne, len_eq h]; rfl
theorem len_ne' {a : ByteArray} (h : ¬ a.size = 32) : ((a.size : Int) != 32) = true := by rw [bne, len_ne h]; rfl
set_option maxRecDepth 100000 in
set_option maxHeartbeats 2000000 in
theorem refverifyE_any (old rt : ByteArray) (ho : old.size ≤ 9223372036854775807) (hr : rt.size ≤ 9223372036854775807) (n m : Int) (n1 : -9223372036854775808 ≤ n) (n2 : n ≤ 9223372036854775807) (m1 : -9223372036854775808 ≤ m) (m2 : m ≤ 9223372036854775807) (A : Option Addr) (c k : Nat) (p : List ByteArray) (w : World)
    (hk : k = p.length) (hkc : k ≤ c) (hcm : c ≤ 9223372036854775807) (hS : Strs w w.heap.size A p) (hz : ∀ x ∈ p, x.size ≤ 1000) :
    Calls Tryd.prog 32 #[.string old, .int .i64 m, .string rt, .int .i64 n, .slice A k c] w fun e w' => e = .returned (.bool (verifyE old m rt n p)) ∧ Below w.heap.size w w' := by
  have hd := refdigs_any A c k p w hk (by omega) hS (fun x hx => Nat.le_trans (hz x hx) (by decide))
  by_cases h0 : m < 0
  · have e : verifyE old m rt n p = false := by rw [verifyE, if_neg (by omega)]
    rw [e]
    clear e hS hz hk
    go_enter Tryd.func32, Tryd.ntmps32
    go_wp2_with fail
    refine hd.mono ?_
    rintro e w1 ⟨rfl, rfl⟩
    go_wp2
    go_ret
    exact ⟨rfl, Below.refl _ _⟩
  by_cases h1 : n < m
  · have e : verifyE old m rt n p = false := by rw [verifyE, if_neg (by omega)]
    rw [e]
    clear e hS hz hk
    go_enter Tryd.func32, Tryd.ntmps32
    go_wp2_with fail
    refine hd.mono ?_
    rintro e w1 ⟨rfl, rfl⟩
    go_wp2
    go_ret
    exact ⟨rfl, Below.refl _ _⟩
  have hdd : allDig [old, rt] = true ↔ old.size = 32 ∧ rt.size = 32 := by simp [allDig]
  by_cases d2 : allDig p = true
  case neg =>
    have e : verifyE old m rt n p = false := by rw [verifyE, if_neg (fun h => d2 h.2.2.2)]
    have df : allDig p = false := by simpa using d2
    rw [df] at hd
    rw [e]
    clear e hS hz hk d2 df hdd
    go_enter Tryd.func32, Tryd.ntmps32
    go_wp2_with fail
    refine hd.mono ?_
    rintro e w1 ⟨rfl, rfl⟩
    go_wp2
    go_ret
    exact ⟨rfl, Below.refl _ _⟩
  rw [d2] at hd
  by_cases d1 : old.size = 32
  case neg =>
    have e : verifyE old m rt n p = false := by rw [verifyE, if_neg (fun h => d1 (hdd.1 h.2.2.1).1)]
    have g := len_ne d1
    have g' := len_ne' d1
    rw [e]
    clear e hS hz hk d2 hdd
    go_enter Tryd.func32, Tryd.ntmps32
    go_wp2_with fail
    refine hd.mono ?_
    rintro e w1 ⟨rfl, rfl⟩
    go_wp2
    go_ret
    exact ⟨rfl, Below.refl _ _⟩
  have l1' := len_eq' d1
  by_cases d3 : rt.size = 32
  case neg =>
    have e : verifyE old m rt n p = false := by rw [verifyE, if_neg (fun h => d3 (hdd.1 h.2.2.1).2)]
    have g := len_ne d3
    have g' := len_ne' d3
    rw [e]
    clear e hS hz hk d2 hdd d1
    go_enter Tryd.func32, Tryd.ntmps32
    go_wp2_with fail
    refine hd.mono ?_
    rintro e w1 ⟨rfl, rfl⟩
    go_wp2
    go_ret
    exact ⟨rfl, Below.refl _ _⟩
  have l2' := len_eq' d3
  have ho32 : old.size ≤ 1000 := by omega
  have e0 : verifyE old m rt n p = (if m = 0 then p.isEmpty && decide (old = root []) else if m = n then p.isEmpty && decide (old = rt)
    else (bothR old p.reverse m.toNat n.toNat true).2.2 && decide ((bothR old p.reverse m.toNat n.toNat true).1 = old) && decide ((bothR old p.reverse m.toNat n.toNat true).2.1 = rt)) := by rw [verifyE, if_pos ⟨by omega, by omega, hdd.2 ⟨d1, d3⟩, d2⟩, both_ok]
  have hpe : p.isEmpty = decide (k = 0) := by rw [hk]; cases p <;> simp
  clear hdd d1 d3
  by_cases hm0 : m = 0
  · rw [e0, if_pos hm0]
    subst hm0
    rw [hpe]
    have rt0 := fun w => refsum_any ⟨#[]⟩ (by decide) w
    obtain ⟨R, hR⟩ : ∃ R, R = root [] := ⟨_, rfl⟩
    rw [← root_nil, ← hR] at rt0
    rw [← hR]
    clear e0 hS hz hk d2 hpe hR
    by_cases hk0 : k = 0
    · subst hk0
      by_cases hor : old = R
      · have g := str_eq hor
        rw [decide_eq_true hor]
        clear hor
        go_enter Tryd.func32, Tryd.ntmps32
        go_wp2_with fail
        refine hd.mono ?_
        rintro e w1 ⟨rfl, rfl⟩
        go_wp2_with fail
        refine (rt0 _).mono ?_
        rintro e w2 ⟨rfl, b2⟩
        go_wp2_with fail
        go_ret
        exact ⟨rfl, b2⟩
      · have g := str_ne hor
        rw [decide_eq_false hor]
        clear hor
        go_enter Tryd.func32, Tryd.ntmps32
        go_wp2_with fail
        refine hd.mono ?_
        rintro e w1 ⟨rfl, rfl⟩
        go_wp2_with fail
        refine (rt0 _).mono ?_
        rintro e w2 ⟨rfl, b2⟩
        go_wp2_with fail
        go_ret
        exact ⟨rfl, b2⟩
    · have gk : ((k : Int) == 0) = false := by rw [beq_eq_false_iff_ne]; omega
      rw [decide_eq_false hk0]
      go_enter Tryd.func32, Tryd.ntmps32
      go_wp2_with fail
      refine hd.mono ?_
      rintro e w1 ⟨rfl, rfl⟩
      go_wp2
      go_ret
      exact ⟨rfl, Below.refl _ _⟩
  have gm : (m == 0) = false := by rw [beq_eq_false_iff_ne]; exact hm0
  by_cases hmn : m = n
  · rw [e0, if_neg hm0, if_pos hmn]
    subst hmn
    rw [hpe]
    have gmm : (m == m) = true := by simp
    clear e0 hS hz hk d2 hpe hm0
    by_cases hk0 : k = 0
    · subst hk0
      by_cases hor : old = rt
      · have g := str_eq hor
        rw [decide_eq_true hor]
        clear hor
        go_enter Tryd.func32, Tryd.ntmps32
        go_wp2_with fail
        refine hd.mono ?_
        rintro e w1 ⟨rfl, rfl⟩
        go_wp2
        go_ret
        exact ⟨rfl, Below.refl _ _⟩
      · have g := str_ne hor
        rw [decide_eq_false hor]
        clear hor
        go_enter Tryd.func32, Tryd.ntmps32
        go_wp2_with fail
        refine hd.mono ?_
        rintro e w1 ⟨rfl, rfl⟩
        go_wp2
        go_ret
        exact ⟨rfl, Below.refl _ _⟩
    · have gk : ((k : Int) == 0) = false := by rw [beq_eq_false_iff_ne]; omega
      rw [decide_eq_false hk0]
      go_enter Tryd.func32, Tryd.ntmps32
      go_wp2_with fail
      refine hd.mono ?_
      rintro e w1 ⟨rfl, rfl⟩
      go_wp2
      go_ret
      exact ⟨rfl, Below.refl _ _⟩
  have gn : (m == n) = false := by rw [beq_eq_false_iff_ne]; exact hmn
  rw [e0, if_neg hm0, if_neg hmn]
  obtain ⟨N, rfl⟩ := Int.eq_ofNat_of_zero_le (show 0 ≤ n by omega)
  obtain ⟨M, rfl⟩ := Int.eq_ofNat_of_zero_le (show 0 ≤ m by omega)
  have htw := refboth_any old ho32 p.reverse A c k M N true w (by simpa using hk) hkc hcm (by omega) (by omega) (by omega) (by rw [List.reverse_reverse]; exact hS) (fun x hx => hz x (by simpa using hx))
  rw [Int.toNat_natCast, Int.toNat_natCast]
  obtain ⟨V, hV⟩ : ∃ V, V = bothR old p.reverse M N true := ⟨_, rfl⟩
  rw [← hV] at htw ⊢
  obtain ⟨v, u, ok⟩ := V
  dsimp only [tripV] at htw ⊢
  have a0 : (0 : Int) ≤ (M : Int) := by omega
  have a1 : (M : Int) ≤ (N : Int) := by omega
  clear e0 hS hz hk d2 hpe hm0 hmn hV
  cases ok
  · go_enter Tryd.func32, Tryd.ntmps32
    go_wp2_with fail
    refine hd.mono ?_
    rintro e w1 ⟨rfl, rfl⟩
    go_wp2_with fail
    refine htw.mono ?_
    rintro e w2 ⟨rfl, b2⟩
    go_wp2_with fail
    go_ret
    exact ⟨rfl, b2⟩
  · by_cases hv : v = old
    · by_cases hu : u = rt
      · have g1 := str_eq hv
        have g2 := str_eq hu
        rw [decide_eq_true hv, decide_eq_true hu]
        clear hv hu
        go_enter Tryd.func32, Tryd.ntmps32
        go_wp2_with fail
        refine hd.mono ?_
        rintro e w1 ⟨rfl, rfl⟩
        go_wp2_with fail
        refine htw.mono ?_
        rintro e w2 ⟨rfl, b2⟩
        go_wp2_with fail
        go_ret
        exact ⟨rfl, b2⟩
      · have g1 := str_eq hv
        have g2 := str_ne hu
        rw [decide_eq_true hv, decide_eq_false hu]
        clear hv hu
        go_enter Tryd.func32, Tryd.ntmps32
        go_wp2_with fail
        refine hd.mono ?_
        rintro e w1 ⟨rfl, rfl⟩
        go_wp2_with fail
        refine htw.mono ?_
        rintro e w2 ⟨rfl, b2⟩
        go_wp2_with fail
        go_ret
        exact ⟨rfl, b2⟩
    · have g1 := str_ne hv
      rw [decide_eq_false hv]
      clear hv
      go_enter Tryd.func32, Tryd.ntmps32
      go_wp2_with fail
      refine hd.mono ?_
      rintro e w1 ⟨rfl, rfl⟩
      go_wp2_with fail
      refine htw.mono ?_
      rintro e w2 ⟨rfl, b2⟩
      go_wp2_with fail
      go_ret
      exact ⟨rfl, b2⟩
end Go.Proofs.YtjcamhekhfokhaaDoor
