/- takeMost: a group is found by a binary search whose function makes memory. -/
import Derived.Test.YtgpncnnlhhmjaaaGreatDoorTimes
import Derived.Deep.LoopGhost
namespace Go.Proofs.YtgpncnnlhhmjaaaGreatDoor
open Go.RowKit

set_option maxHeartbeats 4000000 in
set_option maxRecDepth 1000000 in
/-- sort.Search: how many places below n are still false, for a function that may make memory. -/
theorem search_any (cb : Array Value) (hcb : cb.size = 2) (n : Nat) (p : Nat → Bool) (w : World) (hsz : n < 4611686018427387904)
    (hf : ∀ W, Below w.heap.size w W → ∀ i, i < n → Calls Tryz.prog 146 (#[.int .i64 i] ++ cb) W fun e w' => e = .returned (.bool (p i)) ∧ Below W.heap.size W w')
    (hmono : ∀ a b, a ≤ b → b < n → p a = true → p b = true) :
    Calls Tryz.prog 145 #[.int .i64 n, .func (.func 146) #[] cb] w fun e w' => e = .returned (.int .i64 ((List.range n).countP (fun i => !p i) : Nat)) ∧ Below w.heap.size w w' := by
  have HF := Lib.hid hf
  have M := Lib.hid hmono
  clear hf hmono
  obtain ⟨c1, c2, rfl⟩ : ∃ c1 c2, cb = #[c1, c2] := by
    obtain ⟨l⟩ := cb
    match l, hcb with
    | [c1, c2], _ => exact ⟨c1, c2, rfl⟩
  generalize hcnt : (List.range n).countP (fun i => !p i) = cnt
  have CN := Lib.hid hcnt
  clear hcnt hcb
  go_enter Tryz.func145, Tryz.ntmps145
  go_wp2
  go_loopg [5, 6, 7] n (fun kx s5 s6 _ wr => ∃ lo hi : Nat, s5 = .int .i64 lo ∧ s6 = .int .i64 hi ∧ lo ≤ hi ∧ hi ≤ n ∧ hi - lo ≤ kx ∧ Below w.heap.size w wr ∧
    Hid ((∀ t, t < lo → p t = false) ∧ (∀ t, hi ≤ t → t < n → p t = true)))
  case atStart => exact ⟨0, n, rfl, rfl, Nat.zero_le _, Nat.le_refl _, by omega, Below.refl _ _, Lib.hid ⟨fun t ht => absurd ht (Nat.not_lt_zero _), fun t h1 h2 => by omega⟩⟩
  case round =>
    obtain ⟨lo, hi, rfl, rfl, hlh, hin, hg, hbr, I⟩ := hrel
    by_cases hlt : lo < hi
    · have hc := HF.out wr hbr ((lo + hi) / 2) (by omega)
      rw [show (((lo + hi) / 2 : Nat) : Int) = ((lo : Int) + (hi : Int)) / 2 by omega] at hc
      have HBR := Lib.hid hbr
      clear hbr
      cases hp : p ((lo + hi) / 2) <;> rw [hp] at hc
      · have HP := Lib.hid hp
        clear hp
        go_wp2_with (go_at_call 146; refine hc.mono ?_; rintro e w' ⟨rfl, hb'⟩)
        go_roundg (hi - ((lo + hi) / 2 + 1))
        case measure => omega
        case rel =>
          have I2 : Hid ((∀ t, t < (lo + hi) / 2 + 1 → p t = false) ∧ (∀ t, hi ≤ t → t < n → p t = true)) := ⟨fun t ht => (by
            cases h : p t with
            | false => rfl
            | true => have := M.out t ((lo + hi) / 2) (by omega) (by omega) h; rw [HP.out] at this; cases this), I.out.2⟩
          exact ⟨(lo + hi) / 2 + 1, hi, by rw [show ((lo : Int) + (hi : Int)) / 2 + 1 = (((lo + hi) / 2 + 1 : Nat) : Int) by omega], rfl, by omega, hin, Nat.le_refl _, below_step HBR.out hb', I2⟩
      · have HP := Lib.hid hp
        clear hp
        go_wp2_with (go_at_call 146; refine hc.mono ?_; rintro e w' ⟨rfl, hb'⟩)
        go_roundg ((lo + hi) / 2 - lo)
        case measure => omega
        case rel =>
          have I2 : Hid ((∀ t, t < lo → p t = false) ∧ (∀ t, (lo + hi) / 2 ≤ t → t < n → p t = true)) := ⟨I.out.1, fun t ht htn => M.out ((lo + hi) / 2) t ht htn HP.out⟩
          exact ⟨lo, (lo + hi) / 2, rfl, by rw [show ((lo : Int) + (hi : Int)) / 2 = (((lo + hi) / 2 : Nat) : Int) by omega], by omega, by omega, Nat.le_refl _, below_step HBR.out hb', I2⟩
    · obtain rfl : hi = lo := by omega
      have ecnt : cnt = hi := by
        rw [← CN.out]
        exact countP_prefix _ hi n hin (fun i h => by rw [I.out.1 i h]; rfl) (fun i h1 h2 => by rw [I.out.2 i h1 h2]; rfl)
      subst ecnt
      have HBR := Lib.hid hbr
      clear hbr
      go_wp2
      go_ret
      exact ⟨rfl, HBR.out⟩

set_option maxRecDepth 100000 in
set_option maxHeartbeats 8000000 in
theorem tmstep_scale (Ab : Option Addr) (Lb cb : Nat) (P1 P2 : Nat) (A : Option Addr) (L c s i : Nat) (f : Nat → Nat) (hi : i < 9999) (w : World) (h1 : w.cell? ⟨P1, 0, none⟩ = some (.func (.func 128) #[.slice Ab Lb cb] #[])) (h2 : w.cell? ⟨P2, 0, none⟩ = some (.slice A L c)) (h : Nt w w.heap.size A L c s)
    (hA : ∀ W, Below w.heap.size w W → ∀ g : Nat, g ≤ 9999 → Calls Tryz.prog 128 #[.slice Ab Lb cb, .int .i64 (g : Int)] W fun e w' => ∃ A' L' c', e = .returned (.slice A' L' c') ∧ Nt w' w'.heap.size A' L' c' (f g) ∧ L' ≤ 1000 ∧ Below W.heap.size W w') :
    Calls Tryz.prog 146 #[.int .i64 (i : Int), .pointer (some ⟨P1, 0, none⟩), .pointer (some ⟨P2, 0, none⟩)] w fun e w' => e = .returned (.bool (decide (s < f (i + 1)))) ∧ Below w.heap.size w w' := by
  have l1 : P1 < w.heap.size := World.block_lt_of_cell? _ _ h1
  have l2 : P2 < w.heap.size := World.block_lt_of_cell? _ _ h2
  have both : ∀ W, Below w.heap.size w W → (Below w.heap.size w W ∧ W.cell? ⟨P1, 0, none⟩ = some (.func (.func 128) #[.slice Ab Lb cb] #[]) ∧ W.cell? ⟨P2, 0, none⟩ = some (.slice A L c)) :=
    fun W hb => ⟨hb, (hb.cell (p := ⟨P1, 0, none⟩) l1).trans h1, (hb.cell (p := ⟨P2, 0, none⟩) l2).trans h2⟩
  obtain ⟨k, hk⟩ : ∃ k, k = i + 1 := ⟨_, rfl⟩
  have cA := fun W (hb : Below w.heap.size w W) => hA W hb k (by omega)
  have ek : IntKind.i64.wrap ((i : Int) + 1) = (k : Int) := by rw [IntWalk.i64_in _ (by omega)]; omega
  rw [← hk]
  obtain ⟨F, hF⟩ : ∃ F, F = f k := ⟨_, rfl⟩
  rw [← hF] at cA ⊢
  have HD := Lib.hid h; have BOTH := Lib.hid both
  obtain ⟨R, hR⟩ : ∃ R, R = cmpI (F : Int) (s : Int) := ⟨_, rfl⟩
  have hd : decide (s < F) = decide (R > 0) := by
    rw [hR]; unfold cmpI
    rw [decide_eq_decide]
    split
    · omega
    · split <;> omega
  have hd2 : decide (s < F) = decide (0 < R) := hd
  rw [hd2]
  have cC := fun (A' : Option Addr) (L' c' : Nat) (W : World) (B : Nat) (m : L' ≤ 1000) (h1 : Nt W B A' L' c' F) (h2 : Nt W B A L c s) => compare_any A' A L' c' F L c s B m W h1 h2
  rw [← hR] at cC
  have CC := Lib.hid cC; have CA := Lib.hid cA
  clear both h h1 h2 hA hk hF hR hd hd2 cC cA
  go_enter Tryz.func146, Tryz.ntmps146
  go_wp2
  go_region_held3 (fun W => Below w.heap.size w W ∧ W.cell? ⟨P1, 0, none⟩ = some (.func (.func 128) #[.slice Ab Lb cb] #[]) ∧ W.cell? ⟨P2, 0, none⟩ = some (.slice A L c))
    (first | assumption | exact BOTH.out _ (Below.refl _ _).drew | exact BOTH.out _ (below_step (And.left (by assumption)) (by assumption)))
    (first
      | (go_at_call 128; ((with_reducible refine (CA.out _ (And.left (by assumption))).mono ?_); rintro e w4 ⟨A4, L4, c4, rfl, hN4, hL4, b4⟩))
      | (go_at_call 107; ((with_reducible refine (CC.out _ _ _ _ _ hL4 hN4 (HD.out.kept (And.left (by assumption)))).mono ?_); rintro e w6 ⟨rfl, rfl⟩)))
  all_goals go_wp2
  all_goals go_ret
  all_goals exact ⟨rfl, And.left (by assumption)⟩

set_option maxRecDepth 100000 in
set_option maxHeartbeats 8000000 in
theorem tm_scale (Ab : Option Addr) (Lb cb : Nat) (A : Option Addr) (L c s : Nat) (f : Nat → Nat) (m : L ≤ 900) (w : World) (h : Nt w w.heap.size A L c s) (hmono : ∀ a b, a ≤ b → b ≤ 9999 → f a ≤ f b) (hle : f (most f s) ≤ s)
    (hA : ∀ W, Below w.heap.size w W → ∀ g : Nat, g ≤ 9999 → Calls Tryz.prog 128 #[.slice Ab Lb cb, .int .i64 (g : Int)] W fun e w' => ∃ A' L' c', e = .returned (.slice A' L' c') ∧ Nt w' w'.heap.size A' L' c' (f g) ∧ L' ≤ 900 ∧ Below W.heap.size W w') :
    Calls Tryz.prog 126 #[.slice A L c, (.func (.func 128) #[.slice Ab Lb cb] #[])] w fun e w' => ∃ A' L' c', e = .returned (.tuple #[.int .i64 (most f s : Int), .slice A' L' c']) ∧ Nt w' w'.heap.size A' L' c' (s - f (most f s)) ∧ Below w.heap.size w w' := by
  have hmf : ∀ (fn : Fn) (first cap : Array Value) (w : World), (Instr.makeFunc fn first cap).run Tryz.prog w = .ok (.func fn first cap) w := fun _ _ _ _ => rfl
  obtain ⟨w1, hw1⟩ : ∃ w1, w1 = (w.alloc (.cells #[.slice A L c] 89)).alloc (.cells #[(.func (.func 128) #[.slice Ab Lb cb] #[])] 135) := ⟨_, rfl⟩
  have hb1 : Below w.heap.size w w1 := by rw [hw1]; exact (below_alloc w _).alloc (by simp) _
  have hs1 : w1.heap.size = w.heap.size + 1 + 1 := by rw [hw1]; simp
  have k2 : w1.cell? ⟨w.heap.size, 0, none⟩ = some (.slice A L c) := by rw [hw1]; exact ((Row.made w 89 #[.slice A L c]).later _).at rfl
  have k1 : w1.cell? ⟨w.heap.size + 1, 0, none⟩ = some (.func (.func 128) #[.slice Ab Lb cb] #[]) := by rw [hw1]; exact (Row.made_at _ 135 #[(.func (.func 128) #[.slice Ab Lb cb] #[])] (by simp)).at rfl
  have both : ∀ W, Below w1.heap.size w1 W → (Below w1.heap.size w1 W ∧ W.cell? ⟨w.heap.size + 1, 0, none⟩ = some (.func (.func 128) #[.slice Ab Lb cb] #[]) ∧ W.cell? ⟨w.heap.size, 0, none⟩ = some (.slice A L c)) :=
    fun W hb => ⟨hb, (hb.cell (p := ⟨w.heap.size + 1, 0, none⟩) (by show w.heap.size + 1 < w1.heap.size; omega)).trans k1, (hb.cell (p := ⟨w.heap.size, 0, none⟩) (by show w.heap.size < w1.heap.size; omega)).trans k2⟩
  obtain ⟨q, hq⟩ : ∃ q, q = most f s := ⟨_, rfl⟩
  have hq9 : q ≤ 9999 := by rw [hq]; exact most_le f s
  have cS := search_any #[.pointer (some ⟨w.heap.size + 1, 0, none⟩), .pointer (some ⟨w.heap.size, 0, none⟩)] rfl 9999 (fun i => decide (s < f (i + 1))) w1 (by decide)
    (fun W hb i hi => tmstep_scale Ab Lb cb (w.heap.size + 1) w.heap.size A L c s i f hi W (both W hb).2.1 (both W hb).2.2 (h.kept (hb1.trans (hb.mono hb1.size))) (fun X hX g hg => (hA X (below_step (below_step hb1 hb) hX) g hg).mono (fun e w' he => by
      obtain ⟨A', L', c', e1, e2, e3, e4⟩ := he
      exact ⟨A', L', c', e1, e2, by omega, e4⟩)))
    (fun a b hab hb h1 => by
      have := hmono (a + 1) (b + 1) (by omega) (by omega)
      simp only [decide_eq_true_eq] at h1 ⊢
      omega)
  rw [show (List.range 9999).countP (fun i => !decide (s < f (i + 1))) = q by rw [hq]; rfl] at cS
  rw [← hq] at hle ⊢
  obtain ⟨F, hF⟩ : ∃ F, F = f q := ⟨_, rfl⟩
  have cA := fun W (hb : Below w.heap.size w W) => hA W hb q hq9
  rw [← hF] at hle cA ⊢
  have cM := fun (A' : Option Addr) (L' c' : Nat) (W : World) (m' : L' ≤ 900) (h1 : Nt W W.heap.size A L c s) (h2 : Nt W W.heap.size A' L' c' F) => minus_any A A' L c s L' c' F m m' hle W h1 h2
  have CA := Lib.hid cA; have CM := Lib.hid cM; have BOTH := Lib.hid both; have HD := Lib.hid h; have HB1 := Lib.hid hb1; have CS := Lib.hid cS
  clear hmono hle hA hs1 k1 k2 both hq hF cA cM h hb1 cS m
  go_enter Tryz.func126, Tryz.ntmps126
  go_wp2_with (first | (go_at_call 145; rw [← hw1]; refine CS.out.mono ?_; rintro e w2 ⟨rfl, hb2⟩) | fail)
  have K := BOTH.out w2 hb2
  obtain ⟨_, k1, k2⟩ := K
  have hb3 := below_step HB1.out hb2
  have l1 : w.heap.size + 1 < w2.heap.size := World.block_lt_of_cell? _ _ k1
  have l2 : w.heap.size < w2.heap.size := World.block_lt_of_cell? _ _ k2
  have both3 : ∀ W, Below w2.heap.size w2 W → (Below w2.heap.size w2 W ∧ W.cell? ⟨w.heap.size + 1, 0, none⟩ = some (.func (.func 128) #[.slice Ab Lb cb] #[]) ∧ W.cell? ⟨w.heap.size, 0, none⟩ = some (.slice A L c)) :=
    fun W hb => ⟨hb, (hb.cell (p := ⟨w.heap.size + 1, 0, none⟩) l1).trans k1, (hb.cell (p := ⟨w.heap.size, 0, none⟩) l2).trans k2⟩
  have B3 := Lib.hid both3; have HB3 := Lib.hid hb3
  clear both3 hb3 hb2 hw1
  go_wp2
  go_region_held3 (fun W => Below w2.heap.size w2 W ∧ W.cell? ⟨w.heap.size + 1, 0, none⟩ = some (.func (.func 128) #[.slice Ab Lb cb] #[]) ∧ W.cell? ⟨w.heap.size, 0, none⟩ = some (.slice A L c))
    (first | assumption | exact B3.out _ (Below.refl _ _).drew | exact B3.out _ (below_step (And.left (by assumption)) (by assumption)))
    (first
      | (go_at_call 128; ((with_reducible refine (CA.out _ (below_step HB3.out (And.left (by assumption)))).mono ?_); rintro e w4 ⟨A4, L4, c4, rfl, hN4, hL4, b4⟩))
      | (go_at_call 104; ((with_reducible refine (CM.out _ _ _ _ hL4 (HD.out.kept (below_step HB3.out (And.left (by assumption)))) hN4).mono ?_); rintro e w6 ⟨A6, L6, c6, rfl, hN6, b6⟩)))
  all_goals go_wp2
  all_goals go_ret2
  all_goals exact ⟨_, _, _, rfl, hN6, below_step HB3.out (And.left (by assumption))⟩

end Go.Proofs.YtgpncnnlhhmjaaaGreatDoor
