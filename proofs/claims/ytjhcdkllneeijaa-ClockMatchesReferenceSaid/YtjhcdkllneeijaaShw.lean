/- Shown: the course of a clock; its plain function, that it keeps the inequality, its walk. -/
import Derived.Test.YtjhcdkllneeijaaPick
import Derived.Test.YtjhcdkllneeijaaFrame
import Derived.Deep.LoopGhost
namespace Go.Proofs.Ytjhcdkllneeijaa
open Go.RowKit

/-- How many of the seconds up to t lie in the i-th hundred. -/
def inH (t : Int) (i : Nat) : Int := max 0 (min (t - 100 * i) 100)
/-- The sum of the first k rates, by the seconds. -/
def sumK (d : Int) (rates : List Int) (t : Int) : Nat → Int
  | 0 => 0
  | k + 1 => sumK d rates t k + (pk (rates.getD k 0) (2 * d + 1) - d) * inH t k
def sumH (t : Int) : Nat → Int
  | 0 => 0
  | k + 1 => sumH t k + inH t k
theorem sumH_eq {t : Int} (ht : 0 ≤ t) (k : Nat) : sumH t k = min t (100 * k) := by
  induction k with
  | zero => rw [sumH]; omega
  | succ k ih => rw [sumH, ih, inH]; omega
theorem inH_mono {s t : Int} (h : s ≤ t) (i : Nat) : inH s i ≤ inH t i := by unfold inH; omega
theorem sumK_diff {d : Int} (hd : 0 ≤ d) (rates : List Int) {s t : Int} (h : s ≤ t) (k : Nat) :
    sumK d rates t k - sumK d rates s k ≤ d * (sumH t k - sumH s k) ∧ -(d * (sumH t k - sumH s k)) ≤ sumK d rates t k - sumK d rates s k := by
  induction k with
  | zero => simp [sumK, sumH]
  | succ k ih =>
    simp only [sumK, sumH]
    have hr := pk_range (c := rates.getD k 0) (n := 2 * d + 1) (by omega)
    have hm := inH_mono h k
    obtain ⟨y, hy⟩ : ∃ y, y = inH t k - inH s k := ⟨_, rfl⟩
    have hy0 : 0 ≤ y := by omega
    have h1 := Int.mul_le_mul_of_nonneg_right (show pk (rates.getD k 0) (2 * d + 1) - d ≤ d by omega) hy0
    have h2 := Int.mul_le_mul_of_nonneg_right (show -d ≤ pk (rates.getD k 0) (2 * d + 1) - d by omega) hy0
    generalize pk (rates.getD k 0) (2 * d + 1) - d = c at *
    have e1 : c * inH t k = c * inH s k + c * y := by rw [← Int.mul_add, hy]; congr 1; omega
    have e2 : d * (sumH t k + inH t k - (sumH s k + inH s k)) = d * (sumH t k - sumH s k) + d * y := by rw [← Int.mul_add, hy]; congr 1; omega
    rw [e1, e2]
    rw [Int.neg_mul] at h2
    generalize d * y = dy at *
    generalize c * y = cy at *
    generalize d * (sumH t k - sumH s k) = z at *
    omega
/-- What the clock shows. -/
def shN (d start : Int) (rates : List Int) (t : Int) : Int := pk start 1000 + (sumK d rates t (min rates.length 20) + 1000 * t) / 1000
theorem shN_fits {d start : Int} (h1 : 0 ≤ d) {rates : List Int} {s t : Int} (hs : 0 ≤ s) (h : s ≤ t) : Fits d (t - s) (shN d start rates t - shN d start rates s) := by
  obtain ⟨a, b⟩ := sumK_diff h1 rates h (min rates.length 20)
  have e1 := sumH_eq hs (min rates.length 20)
  have e2 := sumH_eq (show 0 ≤ t by omega) (min rates.length 20)
  have hx : sumH t (min rates.length 20) - sumH s (min rates.length 20) ≤ t - s := by omega
  have hm := Int.mul_le_mul_of_nonneg_left hx h1
  have f1 : (1000 - d) * (t - s) = 1000 * (t - s) - d * (t - s) := by rw [Int.sub_mul]
  have f2 : (1000 + d) * (t - s) = 1000 * (t - s) + d * (t - s) := by rw [Int.add_mul]
  unfold Fits shN
  rw [f1, f2]
  generalize d * (t - s) = z at *
  generalize d * (sumH t (min rates.length 20) - sumH s (min rates.length 20)) = y at *
  generalize sumK d rates t (min rates.length 20) = A at *
  generalize sumK d rates s (min rates.length 20) = B at *
  constructor <;> omega
theorem sumK_abs {d : Int} (h1 : 0 ≤ d) (rates : List Int) {t : Int} (ht : 0 ≤ t) (k : Nat) : sumK d rates t k ≤ d * (min t (100 * k)) ∧ -(d * (min t (100 * k))) ≤ sumK d rates t k := by
  have h := sumK_diff h1 rates ht k
  have z : sumK d rates 0 k = 0 := by
    clear h
    induction k with
    | zero => rfl
    | succ k ih => rw [sumK, ih, show inH 0 k = 0 by unfold inH; omega]; simp
  have z2 : sumH 0 k = 0 := by rw [sumH_eq (by omega)]; omega
  rw [z, z2, sumH_eq ht] at h
  simpa using h
theorem sumK_bd {d : Int} (h1 : 0 ≤ d) (h2 : d ≤ 100) (rates : List Int) {t : Int} (ht : 0 ≤ t) (k : Nat) : -(100 * t) ≤ sumK d rates t k ∧ sumK d rates t k ≤ 100 * t := by
  obtain ⟨a, b⟩ := sumK_abs h1 rates ht k
  have hx : 0 ≤ min t (100 * (k : Int)) := by omega
  have hm := Int.mul_le_mul_of_nonneg_right h2 hx
  generalize d * min t (100 * (k : Int)) = z at *
  omega
theorem shN_range {d start : Int} (h1 : 0 ≤ d) (h2 : d ≤ 100) (rates : List Int) {t : Int} (ht : 0 ≤ t) (hb : t ≤ 5000) : 0 ≤ shN d start rates t ∧ shN d start rates t ≤ 6500 := by
  obtain ⟨a, b⟩ := sumK_abs h1 rates ht (min rates.length 20)
  have hr := pk_range (c := start) (n := 1000) (by omega)
  have hx : 0 ≤ min t (100 * ((min rates.length 20 : Nat) : Int)) := by omega
  have hm := Int.mul_le_mul_of_nonneg_right h2 hx
  unfold shN
  generalize d * min t (100 * ((min rates.length 20 : Nat) : Int)) = z at *
  omega
theorem sumK_stop {d : Int} {rates : List Int} {t : Int} {k : Nat} (h : t ≤ 100 * k) (m : Nat) : sumK d rates t (k + m) = sumK d rates t k := by
  induction m with
  | zero => rfl
  | succ m ih =>
    rw [← Nat.add_assoc, sumK, ih, show inH t (k + m) = 0 by unfold inH; omega]; simp
theorem Nums.below {w W : World} {B : Nat} {A : Option Addr} {l : List Int} (h : Nums w B A l) (hb : Below B w W) : Nums W B A l := by
  rcases h with h | ⟨b, o, hA, hB, hc⟩
  · exact .inl h
  · exact .inr ⟨b, o, hA, hB, fun i r hr => by
      rw [hb.cell (p := ⟨b, o + i, none⟩) hB]
      exact hc i r hr⟩
theorem Nums.more {w : World} {B B' : Nat} {A : Option Addr} {l : List Int} (h : Nums w B A l) (hB' : B ≤ B') : Nums w B' A l := by
  rcases h with h | ⟨b, o, hA, hB, hc⟩
  · exact .inl h
  · exact .inr ⟨b, o, hA, Nat.lt_of_lt_of_le hB hB', hc⟩
theorem Nums.deep {w W : World} {A : Option Addr} {l : List Int} (h : Nums w w.heap.size A l) (hb : Below w.heap.size w W) : Nums W W.heap.size A l := (h.below hb).more hb.size
theorem Nums.at {w : World} {B : Nat} {A : Option Addr} {l : List Int} (h : Nums w B A l) {i : Nat} {r : Int} (hr : l[i]? = some r) : ∃ b o : Nat, A = some ⟨b, o, none⟩ ∧ b < B ∧ w.cell? ⟨b, o + i, none⟩ = some (.int .i64 r) := by
  rcases h with rfl | ⟨b, o, hA, hB, hc⟩
  · simp at hr
  · exact ⟨b, o, hA, hB, hc i r hr⟩

set_option maxRecDepth 100000 in
set_option maxHeartbeats 8000000 in
theorem shown_any (drift start t : Int) (rates : List Int) (A : Option Addr) (c B : Nat) (b0 : In64 drift) (b1 : In64 start) (hr : ∀ r ∈ rates, In64 r) (hn : rates.length ≤ 9223372036854775807) (t0 : 0 ≤ t) (t1 : t ≤ 5000) (w : World) (h : Nums w B A rates) :
    Calls Try.prog 28 #[.int .i64 drift, .int .i64 start, .slice A rates.length c, .int .i64 t] w fun e w' => e = .returned (.int .i64 (shN (pk drift 101) start rates t)) ∧ w' = w := by
  obtain ⟨L, hL⟩ : ∃ L, L = rates.length := ⟨_, rfl⟩
  have p1 := fun W => rpick_any drift 101 b0.1 b0.2 (by omega) (by omega) W
  have r1 := pk_range (c := drift) (n := 101) (by omega)
  generalize pk drift 101 = d at *
  have p2 := fun W => rpick_any start 1000 b1.1 b1.2 (by omega) (by omega) W
  have r2 := pk_range (c := start) (n := 1000) (by omega)
  have hsh : shN d start rates t = pk start 1000 + (sumK d rates t (min L 20) + 1000 * t) / 1000 := by rw [hL]; rfl
  rw [hsh, ← hL]
  rw [← hL] at hn
  clear hsh
  generalize pk start 1000 = s0 at *
  obtain ⟨r1a, r1b⟩ := r1; obtain ⟨r2a, r2b⟩ := r2
  have hS := fun k => sumK_bd r1a (by omega) rates t0 k
  have HP1 := Lib.hid p1; have HP2 := Lib.hid p2; have HL := Lib.hid hL; have HN := Lib.hid h; have HR := Lib.hid hr; have HS := Lib.hid hS
  clear p1 p2 hL h hr hS
  go_enter Try.func28, Try.ntmps28
  go_wp2_with (go_at_call 35; (with_reducible refine (HP1.out _).mono ?_); rintro e wx ⟨rfl, hwx⟩; have hwx := hwx.symm; subst hwx)
  go_loopg [10, 11] 20 (fun kx s10 s11 wr => ∃ (k : Nat), s10 = .int .i64 (sumK d rates t k) ∧ s11 = .int .i64 (k : Int) ∧ k + kx = 20 ∧ k ≤ L ∧ wr = w)
  case atStart => exact ⟨0, rfl, rfl, rfl, by omega, rfl⟩
  case round =>
    obtain ⟨k, rfl, rfl, hk, hkL, rfl⟩ := hrel
    obtain ⟨z1, z2⟩ := HS.out k
    by_cases hgo : k < L ∧ k < 20 ∧ 100 * (k : Int) < t
    · obtain ⟨g1, g2, g3⟩ := hgo
      obtain ⟨r, hv⟩ : ∃ y, rates[k]? = some y := ⟨rates[k]'(by rw [← HL.out]; exact g1), by simp⟩
      obtain ⟨bb, o, hA, hbb, e0⟩ := HN.out.at hv
      subst hA
      obtain ⟨i1, i2⟩ := HR.out r (List.mem_of_getElem? hv)
      have p3 := fun W => rpick_any r (2 * d + 1) i1 i2 (by omega) (by omega) W
      have r3 := pk_range (c := r) (n := 2 * d + 1) (by omega)
      obtain ⟨m, hm⟩ : ∃ m, m = inH t k := ⟨_, rfl⟩
      have hmin : min (t - 100 * (k : Int)) 100 = m := by rw [hm, inH]; omega
      have hm0 : 0 ≤ m ∧ m ≤ 100 := by rw [hm, inH]; omega
      have hz : sumK d rates t (k + 1) = sumK d rates t k + (pk r (2 * d + 1) - d) * m := by
        rw [sumK, ← hm, List.getD_eq_getElem?_getD, hv]; rfl
      generalize pk r (2 * d + 1) = y at *
      obtain ⟨r3a, r3b⟩ := r3
      obtain ⟨m0, m1⟩ := hm0
      have q1 := Int.mul_le_mul_of_nonneg_right (show y - d ≤ 100 by omega) m0
      have q2 := Int.mul_le_mul_of_nonneg_right (show -100 ≤ y - d by omega) m0
      have HP3 := Lib.hid p3; have HZ := Lib.hid hz
      generalize sumK d rates t k = Z at *
      clear p3 hz hm hv
      go_wp2_with (go_at_call 35; (with_reducible refine (HP3.out _).mono ?_); rintro e wx ⟨rfl, hwx⟩; have hwx := hwx.symm; subst hwx)
      go_roundg (20 - (k + 1))
      case measure => omega
      case rel => exact ⟨k + 1, by rw [HZ.out], by go_num, by omega, by omega, rfl⟩
    · have hend : sumK d rates t k = sumK d rates t (min L 20) := by
        by_cases h1 : k = min L 20
        · rw [← h1]
        · have := sumK_stop (d := d) (rates := rates) (t := t) (k := k) (by omega) (min L 20 - k)
          rw [show k + (min L 20 - k) = min L 20 by omega] at this
          exact this.symm
      generalize sumK d rates t k = Z at *
      have htd : (Z + 1000 * t).tdiv 1000 = (Z + 1000 * t) / 1000 := Int.tdiv_eq_ediv_of_nonneg (by omega)
      have HE := Lib.hid hend
      clear hend
      by_cases h1 : k < L
      · by_cases h2 : k < 20
        · have h3 : t ≤ 100 * (k : Int) := by omega
          clear hgo
          go_wp2_with (go_at_call 35; (with_reducible refine (HP2.out _).mono ?_); rintro e wx ⟨rfl, hwx⟩; have hwx := hwx.symm; subst hwx)
          go_ret
          exact ⟨by rw [← HE.out]; rfl, rfl⟩
        · clear hgo
          go_wp2_with (go_at_call 35; (with_reducible refine (HP2.out _).mono ?_); rintro e wx ⟨rfl, hwx⟩; have hwx := hwx.symm; subst hwx)
          go_ret
          exact ⟨by rw [← HE.out]; rfl, rfl⟩
      · clear hgo
        go_wp2_with (go_at_call 35; (with_reducible refine (HP2.out _).mono ?_); rintro e wx ⟨rfl, hwx⟩; have hwx := hwx.symm; subst hwx)
        go_ret
        exact ⟨by rw [← HE.out]; rfl, rfl⟩
end Go.Proofs.Ytjhcdkllneeijaa
