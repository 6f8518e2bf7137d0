/- sort.Search over a condition that stays true once it is; clock.Reads. -/
import Derived.Test.YtjhcdkllneeijaaAt
namespace Go.Proofs.Ytjhcdkllneeijaa
open Go.RowKit

set_option maxRecDepth 1000000 in
set_option maxHeartbeats 4000000 in
theorem search_any (g : Nat) (c1 c2 : Value) (n : Nat) (p : Nat → Bool) (w : World) (eg : ∀ args w, (callFunc g args).run Try.prog w = .ok (.enter g args) w) (hsz : n < 4611686018427387904)
    (hf : ∀ (i : Nat) (W : World), i < n → Below w.heap.size w W → Calls Try.prog g #[.int .i64 i, c1, c2] W fun e w' => e = .returned (.bool (p i)) ∧ Below W.heap.size W w')
    (hmono : ∀ a b, a ≤ b → b < n → p a = true → p b = true) :
    Calls Try.prog 47 #[.int .i64 n, .func (.func g) #[] #[c1, c2]] w fun e w' => e = .returned (.int .i64 ((List.range n).countP (fun i => !p i) : Nat)) ∧ Below w.heap.size w w' := by
  have HF := Lib.hid hf
  obtain ⟨c0, c3, c4⟩ := count_mono p n hmono
  generalize (List.range n).countP (fun i => !p i) = cnt at *
  have C3 := Lib.hid c3; have C4 := Lib.hid c4
  clear hf hmono c3 c4
  go_enter Try.func47, Try.ntmps47
  go_wp2
  go_loopg [5, 6] n (fun kx s5 s6 wr => ∃ (lo hi : Nat), s5 = .int .i64 lo ∧ s6 = .int .i64 hi ∧ lo ≤ cnt ∧ cnt ≤ hi ∧ hi ≤ n ∧ hi - lo ≤ kx ∧ Below w.heap.size w wr)
  case atStart => exact ⟨0, n, rfl, rfl, Nat.zero_le _, c0, Nat.le_refl _, by omega, Below.refl _ _⟩
  case round =>
    obtain ⟨lo, hi, rfl, rfl, h1, h2, h3, h4, hb⟩ := hrel
    by_cases hlt : lo < hi
    · have hc := HF.out ((lo + hi) / 2) wr (by omega) hb
      rw [show (((lo + hi) / 2 : Nat) : Int) = ((lo : Int) + (hi : Int)) / 2 by omega] at hc
      have HB := Lib.hid hb
      clear hb
      cases hp : p ((lo + hi) / 2) <;> rw [hp] at hc
      · have hge : (lo + hi) / 2 < cnt := by
          apply Decidable.byContradiction
          intro hn
          have := C4.out ((lo + hi) / 2) (by omega) (by omega)
          rw [hp] at this; cases this
        have HC := Lib.hid hc
        clear hp hc
        go_wp2_with (go_at_fn g; refine HC.out.mono ?_; rintro e w' ⟨rfl, b2⟩)
        go_roundg (hi - ((lo + hi) / 2 + 1))
        case measure => omega
        case rel => exact ⟨(lo + hi) / 2 + 1, hi, by rw [show ((lo : Int) + (hi : Int)) / 2 + 1 = (((lo + hi) / 2 + 1 : Nat) : Int) by omega], rfl, hge, h2, h3, Nat.le_refl _, below_step HB.out b2⟩
      · have hle : cnt ≤ (lo + hi) / 2 := by
          apply Decidable.byContradiction
          intro hn
          have := C3.out ((lo + hi) / 2) (by omega)
          rw [hp] at this; cases this
        have HC := Lib.hid hc
        clear hp hc
        go_wp2_with (go_at_fn g; refine HC.out.mono ?_; rintro e w' ⟨rfl, b2⟩)
        go_roundg ((lo + hi) / 2 - lo)
        case measure => omega
        case rel => exact ⟨lo, (lo + hi) / 2, rfl, by rw [show ((lo : Int) + (hi : Int)) / 2 = (((lo + hi) / 2 : Nat) : Int) by omega], h1, hle, by omega, Nat.le_refl _, below_step HB.out b2⟩
    · obtain rfl : hi = lo := by omega
      obtain rfl : cnt = hi := by omega
      have HB := Lib.hid hb
      clear hb
      go_wp2
      go_ret
      exact ⟨rfl, HB.out⟩

set_option maxRecDepth 100000 in
set_option maxHeartbeats 4000000 in
theorem closure1 (d t : Int) (rs : List Rd) (A : Option Addr) (c : Nat) (d0 : 0 ≤ d) (d1 : d ≤ 100) (hg : goodB (-1) rs = true) (hn : rs.length ≤ 12) (g1 g2 : Nat) (W : World)
    (hC : Row W g1 24 #[.int .i64 d, .slice A rs.length c]) (hT : Row W g2 3 #[.int .i64 t]) (hr : Rds W W.heap.size A rs) (i : Nat) (hi : i < 10000001) :
    Calls Try.prog 39 #[.int .i64 i, .pointer (some ⟨g1, 0, none⟩), .pointer (some ⟨g2, 0, none⟩)] W fun e w' => e = .returned (.bool (decide (t ≤ (win d rs (i : Int)).2))) ∧ Below W.heap.size W w' := by
  obtain ⟨L, hL⟩ : ∃ L, L = rs.length := ⟨_, rfl⟩
  have hs := fun (V : World) (h : Below W.heap.size W V) => showing_any d rs A c (i : Int) d0 d1 (by omega) (by omega) hg hn V (hr.deep h)
  rw [← hL] at hs hC
  generalize (win d rs (i : Int)).1 = x at *
  generalize (win d rs (i : Int)).2 = y at *
  have HS := Lib.hid hs
  have g2i := hT.inside
  have t0 : W.cell? ⟨g2, 0, none⟩ = some (.int .i64 t) := hT.at rfl
  obtain ⟨k0, k1, k2, k3⟩ := hC.two
  have HT := Lib.hid hT
  clear hs hL hr hg hn hC hT
  unfold clk at HS
  have hfd : ∀ V : World, (Instr.field 62 (.agg #[.int .i64 x, .int .i64 y]) 1).run Try.prog V = .ok (.int .i64 y) V := fun _ => by kernel_rfl
  go_enter Try.func39, Try.ntmps39
  go_wp2
  go_region_with (go_at_call 36; ((refine (HS.out _ (Below.refl _ _).drew).mono ?_); rintro e w2 ⟨rfl, b2⟩; have t2 : w2.cell? ⟨g2, 0, none⟩ = some (.int .i64 t) := (Row.below (Row.drawn HT.out) b2 g2i).at rfl))
  all_goals go_wp2
  all_goals go_ret
  all_goals exact ⟨rfl, below_step (w := W) (Below.refl _ _).drew b2⟩

set_option maxRecDepth 100000 in
set_option maxHeartbeats 4000000 in
theorem closure2 (d t : Int) (rs : List Rd) (A : Option Addr) (c : Nat) (d0 : 0 ≤ d) (d1 : d ≤ 100) (hg : goodB (-1) rs = true) (hn : rs.length ≤ 12) (g1 g2 : Nat) (W : World)
    (hC : Row W g1 24 #[.int .i64 d, .slice A rs.length c]) (hT : Row W g2 3 #[.int .i64 t]) (hr : Rds W W.heap.size A rs) (i : Nat) (hi : i < 10000001) :
    Calls Try.prog 40 #[.int .i64 i, .pointer (some ⟨g1, 0, none⟩), .pointer (some ⟨g2, 0, none⟩)] W fun e w' => e = .returned (.bool (decide (t < (win d rs (i : Int)).1))) ∧ Below W.heap.size W w' := by
  obtain ⟨L, hL⟩ : ∃ L, L = rs.length := ⟨_, rfl⟩
  have hs := fun (V : World) (h : Below W.heap.size W V) => showing_any d rs A c (i : Int) d0 d1 (by omega) (by omega) hg hn V (hr.deep h)
  rw [← hL] at hs hC
  generalize (win d rs (i : Int)).1 = x at *
  generalize (win d rs (i : Int)).2 = y at *
  have HS := Lib.hid hs
  have g2i := hT.inside
  have t0 : W.cell? ⟨g2, 0, none⟩ = some (.int .i64 t) := hT.at rfl
  obtain ⟨k0, k1, k2, k3⟩ := hC.two
  have HT := Lib.hid hT
  clear hs hL hr hg hn hC hT
  unfold clk at HS
  have hfd : ∀ V : World, (Instr.field 62 (.agg #[.int .i64 x, .int .i64 y]) 0).run Try.prog V = .ok (.int .i64 x) V := fun _ => by kernel_rfl
  go_enter Try.func40, Try.ntmps40
  go_wp2
  go_region_with (go_at_call 36; ((refine (HS.out _ (Below.refl _ _).drew).mono ?_); rintro e w2 ⟨rfl, b2⟩; have t2 : w2.cell? ⟨g2, 0, none⟩ = some (.int .i64 t) := (Row.below (Row.drawn HT.out) b2 g2i).at rfl))
  all_goals go_wp2
  all_goals go_ret
  all_goals exact ⟨rfl, below_step (w := W) (Below.refl _ _).drew b2⟩

set_option maxRecDepth 100000 in
theorem first_any (g : Nat) (c1 c2 : Value) (p : Nat → Bool) (w : World) (eg : ∀ args w, (callFunc g args).run Try.prog w = .ok (.enter g args) w)
    (hf : ∀ (i : Nat) (W : World), i < 10000001 → Below w.heap.size w W → Calls Try.prog g #[.int .i64 i, c1, c2] W fun e w' => e = .returned (.bool (p i)) ∧ Below W.heap.size W w')
    (hmono : ∀ a b, a ≤ b → b < 10000001 → p a = true → p b = true) :
    Calls Try.prog 38 #[.func (.func g) #[] #[c1, c2]] w fun e w' => e = .returned (.int .i64 ((List.range 10000001).countP (fun i => !p i) : Nat)) ∧ Below w.heap.size w w' := by
  have hc : Calls Try.prog 47 #[.int .i64 10000001, .func (.func g) #[] #[c1, c2]] w fun e w' => e = .returned (.int .i64 ((List.range 10000001).countP (fun i => !p i) : Nat)) ∧ Below w.heap.size w w' := search_any g c1 c2 10000001 p w eg (by omega) hf hmono
  generalize (List.range 10000001).countP (fun i => !p i) = cnt at *
  have HC := Lib.hid hc
  clear hc hf hmono
  go_enter Try.func38, Try.ntmps38
  go_wp2_with (go_at_call 47; refine HC.out.mono ?_; rintro e w' ⟨rfl, b2⟩)
  go_ret
  exact ⟨rfl, b2⟩

set_option maxRecDepth 100000 in
set_option maxHeartbeats 8000000 in
theorem reads_any (d : Int) (rs : List Rd) (A : Option Addr) (c : Nat) (t : Int) (hn : rs.length ≤ 9223372036854775807) (w : World) (hr : Rds w w.heap.size A rs) :
    Calls Try.prog 22 #[clk d A rs.length c, .int .i64 t] w fun e w' => e = .returned (.tuple #[.int .i64 (readsS d rs t).1, .int .i64 (readsS d rs t).2.1, .int .i64 (readsS d rs t).2.2]) ∧ Below w.heap.size w w' := by
  obtain ⟨L, hL⟩ : ∃ L, L = rs.length := ⟨_, rfl⟩
  have hv := fun (W : World) (h : Below w.heap.size w W) => valid_any d rs A c hn W (hr.deep h)
  have ha : readsS d rs t = if validB d rs = true ∧ okT t = true ∧ fstN d rs t < endN d rs t then ((fstN d rs t : Int), (endN d rs t : Int) - 1, 0) else (0, 0, 50) := rfl
  by_cases h1 : validB d rs = true
  · obtain ⟨d0, d1, h12, hg⟩ := gB h1
    by_cases h2 : okT t = true
    · have hs1 := fun (W : World) (h : Below w.heap.size w W) (g1 g2 : Nat) (hC : Row W g1 24 #[.int .i64 d, .slice A rs.length c]) (hT : Row W g2 3 #[.int .i64 t]) =>
        first_any 39 (.pointer (some ⟨g1, 0, none⟩)) (.pointer (some ⟨g2, 0, none⟩)) (fun (i : Nat) => decide (t ≤ (win d rs (i : Int)).2)) W (enters_of Try.func39 (by kernel_rfl) rfl)
          (fun i V hi hV => closure1 d t rs A c d0 d1 hg h12 g1 g2 V (Row.below hC hV hC.inside) (Row.below hT hV hT.inside) ((hr.deep h).deep hV) i hi) (fun a b hab _ => fst_mono d0 d1 rs t a b hab)
      have hs2 := fun (W : World) (h : Below w.heap.size w W) (g1 g2 : Nat) (hC : Row W g1 24 #[.int .i64 d, .slice A rs.length c]) (hT : Row W g2 3 #[.int .i64 t]) =>
        first_any 40 (.pointer (some ⟨g1, 0, none⟩)) (.pointer (some ⟨g2, 0, none⟩)) (fun (i : Nat) => decide (t < (win d rs (i : Int)).1)) W (enters_of Try.func40 (by kernel_rfl) rfl)
          (fun i V hi hV => closure2 d t rs A c d0 d1 hg h12 g1 g2 V (Row.below hC hV hC.inside) (Row.below hT hV hT.inside) ((hr.deep h).deep hV) i hi) (fun a b hab _ => end_mono d0 d1 rs t a b hab)
      have e1 := end_le d0 d1 rs t
      have e2 := fst_le d0 d1 rs t
      unfold endN at ha e1
      unfold fstN at ha e2
      rw [h1] at hv
      rw [← hL] at hs1 hs2 hv ⊢
      generalize (List.range 10000001).countP (fun (i : Nat) => !decide (t ≤ (win d rs (i : Int)).2)) = x at *
      generalize (List.range 10000001).countP (fun (i : Nat) => !decide (t < (win d rs (i : Int)).1)) = y at *
      by_cases h3 : x < y
      · rw [if_pos ⟨h1, h2, h3⟩] at ha
        rw [ha]
        dsimp only
        have HV := Lib.hid hv; have HS1 := Lib.hid hs1; have HS2 := Lib.hid hs2
        clear hv hs1 hs2 ha h1 hr hL hg hn
        unfold clk at HV ⊢
        go_enter Try.func22, Try.ntmps22
        go_wp2_with (first | (go_at_call 17; (refine (HV.out _ ((below_alloc _ _).alloc (by simp) _)).mono ?_); rintro e w2 ⟨rfl, b2⟩; have r2 : Row w2 w.heap.size 24 #[.int .i64 d, .slice A L c] := Row.below (Row.later (Row.made _ _ _) _) b2 (by simp; omega); have s2 : Row w2 (w.heap.size + 1) 3 #[.int .i64 t] := Row.below (Row.made_at _ _ _ (by simp)) b2 (by simp); obtain ⟨k0, k1, k2, k3⟩ := r2.two; have k4 : w2.cell? ⟨w.heap.size + 1, 0, none⟩ = some (.int .i64 t) := s2.at rfl; have B2 := Lib.hid (below_step ((below_alloc _ _).alloc (by simp) _) b2); have R2 := Lib.hid r2; have S2 := Lib.hid s2; clear b2 r2 s2) | (go_at_call 31; refine (isTime_any _ _).mono ?_; rintro e wx ⟨rfl, hwx⟩; have hwx := hwx.symm; subst hwx) | (go_at_call 38; (first | ((with_reducible refine (HS1.out _ B2.out _ _ R2.out S2.out).mono ?_); rintro e w3 ⟨rfl, b3⟩; have B3 := Lib.hid (below_step B2.out b3); have R3 := Lib.hid (Row.below R2.out b3 R2.out.inside); have S3 := Lib.hid (Row.below S2.out b3 S2.out.inside); clear b3) | ((with_reducible refine (HS2.out _ B3.out _ _ R3.out S3.out).mono ?_); rintro e w4 ⟨rfl, b4⟩; have B4 := Lib.hid (below_step B3.out b4); clear b4))))
        go_ret3
        exact ⟨rfl, B4.out⟩
      · rw [if_neg (fun h => h3 h.2.2)] at ha
        rw [ha]
        dsimp only
        have HV := Lib.hid hv; have HS1 := Lib.hid hs1; have HS2 := Lib.hid hs2
        clear hv hs1 hs2 ha h1 hr hL hg hn
        unfold clk at HV ⊢
        go_enter Try.func22, Try.ntmps22
        go_wp2_with (first | (go_at_call 17; (refine (HV.out _ ((below_alloc _ _).alloc (by simp) _)).mono ?_); rintro e w2 ⟨rfl, b2⟩; have r2 : Row w2 w.heap.size 24 #[.int .i64 d, .slice A L c] := Row.below (Row.later (Row.made _ _ _) _) b2 (by simp; omega); have s2 : Row w2 (w.heap.size + 1) 3 #[.int .i64 t] := Row.below (Row.made_at _ _ _ (by simp)) b2 (by simp); obtain ⟨k0, k1, k2, k3⟩ := r2.two; have k4 : w2.cell? ⟨w.heap.size + 1, 0, none⟩ = some (.int .i64 t) := s2.at rfl; have B2 := Lib.hid (below_step ((below_alloc _ _).alloc (by simp) _) b2); have R2 := Lib.hid r2; have S2 := Lib.hid s2; clear b2 r2 s2) | (go_at_call 31; refine (isTime_any _ _).mono ?_; rintro e wx ⟨rfl, hwx⟩; have hwx := hwx.symm; subst hwx) | (go_at_call 38; (first | ((with_reducible refine (HS1.out _ B2.out _ _ R2.out S2.out).mono ?_); rintro e w3 ⟨rfl, b3⟩; have B3 := Lib.hid (below_step B2.out b3); have R3 := Lib.hid (Row.below R2.out b3 R2.out.inside); have S3 := Lib.hid (Row.below S2.out b3 S2.out.inside); clear b3) | ((with_reducible refine (HS2.out _ B3.out _ _ R3.out S3.out).mono ?_); rintro e w4 ⟨rfl, b4⟩; have B4 := Lib.hid (below_step B3.out b4); clear b4))))
        go_ret3
        exact ⟨rfl, B4.out⟩
    · rw [if_neg (fun h => h2 h.2.1)] at ha
      rw [← hL] at hv ⊢
      rw [h1] at hv
      rw [ha]
      dsimp only
      have h2' := bnot h2
      have HV := Lib.hid hv
      clear hv ha h1 hr hL hg hn h2
      unfold clk at HV ⊢
      go_enter Try.func22, Try.ntmps22
      go_wp2_with (first | (go_at_call 17; (refine (HV.out _ ((below_alloc _ _).alloc (by simp) _)).mono ?_); rintro e w2 ⟨rfl, b2⟩; have r2 : Row w2 w.heap.size 24 #[.int .i64 d, .slice A L c] := Row.below (Row.later (Row.made _ _ _) _) b2 (by simp; omega); have s2 : Row w2 (w.heap.size + 1) 3 #[.int .i64 t] := Row.below (Row.made_at _ _ _ (by simp)) b2 (by simp); obtain ⟨k0, k1, k2, k3⟩ := r2.two; have k4 : w2.cell? ⟨w.heap.size + 1, 0, none⟩ = some (.int .i64 t) := s2.at rfl; have B2 := Lib.hid (below_step ((below_alloc _ _).alloc (by simp) _) b2); have R2 := Lib.hid r2; have S2 := Lib.hid s2; clear b2 r2 s2) | (go_at_call 31; refine (isTime_any _ _).mono ?_; rintro e wx ⟨rfl, hwx⟩; have hwx := hwx.symm; subst hwx))
      go_ret3
      exact ⟨rfl, B2.out⟩
  · rw [if_neg (fun h => h1 h.1)] at ha
    rw [← hL] at hv ⊢
    rw [bnot h1] at hv
    rw [ha]
    dsimp only
    have HV := Lib.hid hv
    clear hv ha h1 hr hL hn
    unfold clk at HV ⊢
    go_enter Try.func22, Try.ntmps22
    go_wp2_with (first | (go_at_call 17; (refine (HV.out _ ((below_alloc _ _).alloc (by simp) _)).mono ?_); rintro e w2 ⟨rfl, b2⟩; have r2 : Row w2 w.heap.size 24 #[.int .i64 d, .slice A L c] := Row.below (Row.later (Row.made _ _ _) _) b2 (by simp; omega); have s2 : Row w2 (w.heap.size + 1) 3 #[.int .i64 t] := Row.below (Row.made_at _ _ _ (by simp)) b2 (by simp); obtain ⟨k0, k1, k2, k3⟩ := r2.two; have k4 : w2.cell? ⟨w.heap.size + 1, 0, none⟩ = some (.int .i64 t) := s2.at rfl; have B2 := Lib.hid (below_step ((below_alloc _ _).alloc (by simp) _) b2); have R2 := Lib.hid r2; have S2 := Lib.hid s2; clear b2 r2 s2) | (go_at_call 31; refine (isTime_any _ _).mono ?_; rintro e wx ⟨rfl, hwx⟩; have hwx := hwx.symm; subst hwx))
    go_ret3
    exact ⟨rfl, B2.out⟩
end Go.Proofs.Ytjhcdkllneeijaa
