/- digest.valueOf, Verify, twoValues, VerifyExtension. -/
import Derived.Test.YtjcamhekhfokhaaDoorVer
namespace Go.Proofs.YtjcamhekhfokhaaDoor
open Go.RowKit

/-- The value of n, i and a proof, the proof's last element first. -/
def valueR (s : ByteArray) : List ByteArray → Nat → Nat → ByteArray × Bool
  | [], n, _ => if n = 1 then (leafS s, true) else (⟨#[]⟩, false)
  | x :: r, n, i => if n = 1 then (leafS s, false) else
      if i < half n then (nodeS (valueR s r (half n) i).1 x, (valueR s r (half n) i).2) else (nodeS x (valueR s r (n - half n) (i - half n)).1, (valueR s r (n - half n) (i - half n)).2)
theorem valueR_size (s : ByteArray) : ∀ (r : List ByteArray) (n i : Nat), (valueR s r n i).1.size ≤ 32
  | [], n, i => by unfold valueR; split; exact Nat.le_of_eq (leafS_size s); decide
  | x :: r, n, i => by
    unfold valueR; split
    · exact Nat.le_of_eq (leafS_size s)
    · split <;> exact Nat.le_of_eq (nodeS_size _ _)
def pairV (v : ByteArray × Bool) : Value := .tuple #[.string v.1, .bool v.2]

theorem strs_cell {w : World} {B b o : Nat} {xs : List ByteArray} (h : Strs w B (some ⟨b, o, none⟩) xs) : ∀ i s, xs[i]? = some s → w.cell? ⟨b, o + i, none⟩ = some (.string s) := by
  rcases h with h | ⟨b', o', e, _, hc⟩
  · intro i s hi; rw [h] at hi; simp at hi
  · cases e; exact hc
theorem strs_some {w : World} {B : Nat} {A : Option Addr} {xs : List ByteArray} (h : Strs w B A xs) (hx : xs ≠ []) : ∃ b o, A = some ⟨b, o, none⟩ ∧ b < B := by
  rcases h with h | ⟨b, o, e, hB, _⟩
  · exact absurd h hx
  · exact ⟨b, o, e, hB⟩

set_option maxRecDepth 100000 in
set_option maxHeartbeats 1000000 in
theorem value_any (s : ByteArray) (hs : s.size ≤ 1000) : ∀ (r : List ByteArray) (A : Option Addr) (c k n i : Nat) (w : World), k = r.length → k ≤ c → c ≤ 9223372036854775807 → 1 ≤ n → n ≤ 9223372036854775807 → i < n → Tab w → Strs w w.heap.size A r.reverse → (∀ x ∈ r, x.size ≤ 1000) →
    Calls Tryd.prog 49 #[.int .i64 n, .int .i64 i, .string s, .slice A k c] w fun e w' => e = .returned (pairV (valueR s r n i)) ∧ Below w.heap.size w w' := by
  intro r
  induction r with
  | nil =>
    intro A c k n i w hk hc hcm hn1 hnm hi ht hS hz
    simp at hk
    subst hk
    have HT := Lib.hid ht
    by_cases h1 : n = 1
    · have e : valueR s [] n i = (leafS s, true) := by rw [valueR, if_pos h1]
      rw [e, h1]
      clear ht hS hz e
      go_enter Tryd.func49, Tryd.ntmps49
      go_wp2_with (go_at_call 15; refine (leaf_any s (by omega) _ HT.out).mono ?_; rintro e w1 ⟨rfl, b1⟩)
      go_ret2
      exact ⟨rfl, b1⟩
    · have e : valueR s [] n i = (⟨#[]⟩, false) := by rw [valueR, if_neg h1]
      have g1 : ((n : Int) == 1) = false := by rw [beq_eq_false_iff_ne]; omega
      rw [e]
      clear ht hS hz e
      go_enter Tryd.func49, Tryd.ntmps49
      go_wp2
      go_ret2
      exact ⟨rfl, Below.refl _ _⟩
  | cons x r ih =>
    intro A c k n i w hk hc hcm hn1 hnm hi ht hS hz
    have hk' : k = r.length + 1 := by simpa using hk
    have HT := Lib.hid ht
    have g0 : ((k : Int) == 0) = false := by rw [beq_eq_false_iff_ne]; omega
    by_cases h1 : n = 1
    · have e : valueR s (x :: r) n i = (leafS s, false) := by rw [valueR, if_pos h1]
      rw [e, h1]
      clear ht hS hz e hk hk' ih
      go_enter Tryd.func49, Tryd.ntmps49
      go_wp2_with (go_at_call 15; refine (leaf_any s (by omega) _ HT.out).mono ?_; rintro e w1 ⟨rfl, b1⟩)
      go_ret2
      exact ⟨rfl, b1⟩
    · have g1 : ((n : Int) == 1) = false := by rw [beq_eq_false_iff_ne]; omega
      rw [List.reverse_cons] at hS
      obtain ⟨b, o, rfl, hB⟩ := strs_some hS (by simp)
      have hcell := strs_cell hS
      obtain ⟨q, hq⟩ : ∃ q, q = r.length := ⟨_, rfl⟩
      obtain rfl : k = q + 1 := by omega
      have hcut := fun W hW => cut_any b o c q r.reverse x W (by simpa using hq) hc hcm hW
      have hst : Strs w w.heap.size (some ⟨b, o, none⟩) r.reverse := .inr ⟨b, o, rfl, hB, fun i s hi => hcell i s (by
        rw [List.getElem?_append_left (by
          rcases Nat.lt_or_ge i r.reverse.length with h | h
          · exact h
          · rw [List.getElem?_eq_none h] at hi; cases hi)]; exact hi)⟩
      have hx := hz x (by simp)
      have hzr : ∀ y ∈ r, y.size ≤ 1000 := fun y hy => hz y (by simp [hy])
      obtain ⟨h, hh⟩ : ∃ h, h = half n := ⟨_, rfl⟩
      have k1 : h < n := by rw [hh]; exact half_lt (by omega)
      have k0 : 0 < h := by rw [hh]; exact half_pos n
      have hfirst := fun w => first_any n (by omega) (by omega) w
      rw [← hh] at hfirst
      have HS := Lib.hid hst; have HC := Lib.hid hcell
      have ht2 : ∀ (W : World) (m : Nat), W = w.drewN m → Tab W ∧ Strs W W.heap.size (some ⟨b, o, none⟩) r.reverse ∧ Below w.heap.size w W := by
        rintro W m rfl
        exact ⟨ht, hst, below_drawnN (Below.refl _ _) m⟩
      have hcc : ∀ i s, (r.reverse ++ [x])[i]? = some s → w.cell? ⟨b, o + i, none⟩ = some (.string s) := hcell
      have H2 := Lib.hid ht2
      by_cases hlt : i < h
      · have e : valueR s (x :: r) n i = (nodeS (valueR s r h i).1 x, (valueR s r h i).2) := by rw [valueR, if_neg h1, ← hh, if_pos hlt]
        have hrec := fun W hW hSW => ih (some ⟨b, o, none⟩) c q h i W hq (by omega) hcm (by omega) (by omega) hlt hW hSW hzr
        have hv := valueR_size s r h i
        rw [e]
        obtain ⟨V, hV⟩ : ∃ V, V = valueR s r h i := ⟨_, rfl⟩
        rw [← hV] at hrec hv ⊢
        obtain ⟨v, ok⟩ := V
        dsimp only [pairV] at hrec hv ⊢
        have hlt' : (i : Int) < (h : Int) := by omega
        have HC2 := Lib.hid hcc
        clear ht hS hz hzr e hk hk' ih hst hcell hh hq hV ht2 hcc
        go_enter Tryd.func49, Tryd.ntmps49
        go_wp2_with fail
        refine (hcut _ HC2.out).mono ?_
        rintro e w1 ⟨rfl, m1, hm1⟩
        obtain ⟨t1, s1, b1⟩ := H2.out w1 m1 hm1
        have T1 := Lib.hid t1; have S1 := Lib.hid s1; clear t1 s1 hm1
        go_wp2_with (first
          | (go_at_call 47; refine (hfirst _).mono ?_; rintro e w' ⟨rfl, rfl⟩)
          | (go_at_call 17; ((with_reducible refine (node_any v x (by omega) (by omega) _ t2.out).mono ?_); rintro e w3 ⟨rfl, b3⟩))
          | (go_at_call 49; ((with_reducible refine (hrec _ T1.out S1.out).mono ?_); rintro e w2 ⟨rfl, b2⟩; have q2 := below_step b1 b2; have t2 := Lib.hid (T1.out.below b2))))
        go_ret2
        exact ⟨rfl, below_step q2 b3⟩
      · obtain ⟨n', hn'⟩ : ∃ n', n' = n - h := ⟨_, rfl⟩
        obtain ⟨i', hi'⟩ : ∃ i', i' = i - h := ⟨_, rfl⟩
        have e : valueR s (x :: r) n i = (nodeS x (valueR s r n' i').1, (valueR s r n' i').2) := by rw [valueR, if_neg h1, ← hh, if_neg hlt, ← hn', ← hi']
        have hrec := fun W hW hSW => ih (some ⟨b, o, none⟩) c q n' i' W hq (by omega) hcm (by omega) (by omega) (by omega) hW hSW hzr
        have hv := valueR_size s r n' i'
        rw [e]
        obtain ⟨V, hV⟩ : ∃ V, V = valueR s r n' i' := ⟨_, rfl⟩
        rw [← hV] at hrec hv ⊢
        obtain ⟨v, ok⟩ := V
        dsimp only [pairV] at hrec hv ⊢
        have hlt' : (h : Int) ≤ (i : Int) := by omega
        have wn : IntKind.i64.wrap ((n : Int) - (h : Int)) = (n' : Int) := by rw [IntWalk.i64_in _ (by omega)]; omega
        have wi : IntKind.i64.wrap ((i : Int) - (h : Int)) = (i' : Int) := by rw [IntWalk.i64_in _ (by omega)]; omega
        have wn' : (n : Int) - (h : Int) = (n' : Int) := by omega
        have wi' : (i : Int) - (h : Int) = (i' : Int) := by omega
        have HC2 := Lib.hid hcc
        clear hn' hi' ht hS hz hzr e hk hk' ih hst hcell hh hq hV ht2 hcc
        go_enter Tryd.func49, Tryd.ntmps49
        go_wp2_with fail
        refine (hcut _ HC2.out).mono ?_
        rintro e w1 ⟨rfl, m1, hm1⟩
        obtain ⟨t1, s1, b1⟩ := H2.out w1 m1 hm1
        have T1 := Lib.hid t1; have S1 := Lib.hid s1; clear t1 s1 hm1
        go_wp2_with (first
          | (go_at_call 47; refine (hfirst _).mono ?_; rintro e w' ⟨rfl, rfl⟩)
          | (go_at_call 17; ((with_reducible refine (node_any x v (by clear wn wi; omega) (by clear wn wi; omega) _ t2.out).mono ?_); rintro e w3 ⟨rfl, b3⟩))
          | (go_at_call 49; ((with_reducible refine (hrec _ T1.out S1.out).mono ?_); rintro e w2 ⟨rfl, b2⟩; have q2 := below_step b1 b2; have t2 := Lib.hid (T1.out.below b2))))
        go_ret2
        exact ⟨rfl, below_step q2 b3⟩

/-- Whether a proof is accepted. -/
def verifyB (rt : ByteArray) (n i : Int) (s : ByteArray) (p : List ByteArray) : Bool :=
  if 0 ≤ i ∧ i < n ∧ allDig p = true then (valueR s p.reverse n.toNat i.toNat).2 && decide ((valueR s p.reverse n.toNat i.toNat).1 = rt) else false
theorem str_eq {a b : ByteArray} (h : a = b) : (a.toList == b.toList) = true := by rw [h]; simp
theorem str_ne {a b : ByteArray} (h : ¬ a = b) : (a.toList == b.toList) = false := by
  rw [beq_eq_false_iff_ne]
  intro e
  rw [ByteArray.toList_eq, ByteArray.toList_eq] at e
  exact h (ByteArray.ext (Array.toList_inj.1 e))
set_option maxRecDepth 100000 in
set_option maxHeartbeats 1000000 in
theorem verify_any (rt : ByteArray) (n i : Int) (n1 : -9223372036854775808 ≤ n) (n2 : n ≤ 9223372036854775807) (i1 : -9223372036854775808 ≤ i) (i2 : i ≤ 9223372036854775807) (s : ByteArray) (hs : s.size ≤ 1000) (A : Option Addr) (c k : Nat) (p : List ByteArray) (w : World)
    (hk : k = p.length) (hkc : k ≤ c) (hcm : c ≤ 9223372036854775807) (ht : Tab w) (hS : Strs w w.heap.size A p) (hz : ∀ x ∈ p, x.size ≤ 1000) :
    Calls Tryd.prog 29 #[.string rt, .int .i64 n, .int .i64 i, .string s, .slice A k c] w fun e w' => e = .returned (.bool (verifyB rt n i s p)) ∧ Below w.heap.size w w' := by
  by_cases h0 : i < 0
  · have e : verifyB rt n i s p = false := by rw [verifyB, if_neg (by omega)]
    rw [e]
    clear e ht hS hz hk
    go_enter Tryd.func29, Tryd.ntmps29
    go_wp2
    go_ret
    exact ⟨rfl, Below.refl _ _⟩
  · by_cases h1 : n ≤ i
    · have e : verifyB rt n i s p = false := by rw [verifyB, if_neg (by omega)]
      rw [e]
      clear e ht hS hz hk
      go_enter Tryd.func29, Tryd.ntmps29
      go_wp2
      go_ret
      exact ⟨rfl, Below.refl _ _⟩
    · have hd := digs_any A c k p w hk (by omega) hS (fun x hx => Nat.le_trans (hz x hx) (by decide))
      by_cases hdig : allDig p = true
      · rw [hdig] at hd
        obtain ⟨N, rfl⟩ := Int.eq_ofNat_of_zero_le (show 0 ≤ n by omega)
        obtain ⟨I, rfl⟩ := Int.eq_ofNat_of_zero_le (show 0 ≤ i by omega)
        have hv := value_any s hs p.reverse A c k N I w (by simpa using hk) hkc hcm (by omega) (by omega) (by omega) ht (by rw [List.reverse_reverse]; exact hS) (fun x hx => hz x (by simpa using hx))
        have e : verifyB rt N I s p = ((valueR s p.reverse N I).2 && decide ((valueR s p.reverse N I).1 = rt)) := by rw [verifyB, if_pos ⟨by omega, by omega, hdig⟩, Int.toNat_natCast, Int.toNat_natCast]
        rw [e]
        obtain ⟨V, hV⟩ : ∃ V, V = valueR s p.reverse N I := ⟨_, rfl⟩
        rw [← hV] at hv ⊢
        obtain ⟨v, ok⟩ := V
        dsimp only [pairV] at hv ⊢
        have a0 : (0 : Int) ≤ (I : Int) := by omega
        clear e ht hS hz hk hdig hV
        cases ok
        · go_enter Tryd.func29, Tryd.ntmps29
          go_wp2_with (first
            | (go_at_call 48; ((with_reducible refine hd.mono ?_); rintro e w1 ⟨rfl, rfl⟩))
            | (go_at_call 49; ((with_reducible refine hv.mono ?_); rintro e w2 ⟨rfl, b2⟩)))
          go_ret
          exact ⟨rfl, b2⟩
        · by_cases hvr : v = rt
          · have g := str_eq hvr
            have gd : decide (v = rt) = true := by simpa using hvr
            rw [gd]
            clear gd
            clear hvr
            go_enter Tryd.func29, Tryd.ntmps29
            go_wp2_with (first
              | (go_at_call 48; ((with_reducible refine hd.mono ?_); rintro e w1 ⟨rfl, rfl⟩))
              | (go_at_call 49; ((with_reducible refine hv.mono ?_); rintro e w2 ⟨rfl, b2⟩)))
            go_ret
            exact ⟨rfl, b2⟩
          · have g := str_ne hvr
            have gd : decide (v = rt) = false := by simpa using hvr
            rw [gd]
            clear gd hvr
            go_enter Tryd.func29, Tryd.ntmps29
            go_wp2_with (first
              | (go_at_call 48; ((with_reducible refine hd.mono ?_); rintro e w1 ⟨rfl, rfl⟩))
              | (go_at_call 49; ((with_reducible refine hv.mono ?_); rintro e w2 ⟨rfl, b2⟩)))
            go_ret
            exact ⟨rfl, b2⟩
      · have e : verifyB rt n i s p = false := by rw [verifyB, if_neg (fun h => hdig h.2.2)]
        rw [e]
        have hdf : allDig p = false := by simpa using hdig
        rw [hdf] at hd
        clear e ht hS hz hk hdig hdf
        go_enter Tryd.func29, Tryd.ntmps29
        go_wp2_with (go_at_call 48; ((with_reducible refine hd.mono ?_); rintro e w1 ⟨rfl, rfl⟩))
        go_ret
        exact ⟨rfl, Below.refl _ _⟩
end Go.Proofs.YtjcamhekhfokhaaDoor
