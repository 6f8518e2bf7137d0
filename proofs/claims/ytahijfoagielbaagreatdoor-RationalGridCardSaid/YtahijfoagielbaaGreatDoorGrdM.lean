/- RationalGrid: what its calls hand back, at a fraction. No walk. -/
import Derived.Test.YtahijfoagielbaaGreatDoorOrdM
namespace Go.Proofs.YtahijfoagielbaaGreatDoor
open Go.RowKit

theorem fit_pow {z : Int} {k : Nat} (h : z.natAbs < 10 ^ k) (hk : k ≤ 200) : fits z = true := by
  unfold fits lim
  exact decide_eq_true (Nat.lt_of_lt_of_le h (Nat.pow_le_pow_right (by decide) hk))
theorem pow_mul_lt {x y : Int} {a b : Nat} (hx : x.natAbs < 10 ^ a) (hy : y.natAbs < 10 ^ b) : (x * y).natAbs < 10 ^ (a + b) := by rw [Nat.pow_add]; exact abs_mul hx hy
theorem pow_le_lt {x : Int} {a b : Nat} (hx : x.natAbs < 10 ^ a) (h : a ≤ b) : x.natAbs < 10 ^ b := Nat.lt_of_lt_of_le hx (Nat.pow_le_pow_right (by decide) h)
theorem pow_add_lt {x y : Int} {a : Nat} (hx : x.natAbs < 10 ^ a) (hy : y.natAbs < 10 ^ a) : (x - y).natAbs < 10 ^ (a + 1) := by
  rw [Nat.pow_succ]; omega
theorem ceil_abs (n : Int) (d : Int) : (ceilI n d).natAbs ≤ n.natAbs + 1 := by
  have h := Int.natAbs_ediv_le_natAbs n d
  rcases ceil_cases n (d := d) with ⟨_, e⟩ | ⟨_, e⟩ <;> rw [e] <;> omega
theorem ceil_lt {n d : Int} {a : Nat} (h : n.natAbs < 10 ^ a) : (ceilI n d).natAbs < 10 ^ (a + 1) := by
  have h1 := ceil_abs n d
  have h2 : 10 ^ a + 1 ≤ 10 ^ (a + 1) := by rw [Nat.pow_succ]; have := Nat.pow_pos (n := a) (show 0 < 10 by decide); omega
  omega
theorem down_some {q : Rat} {p : Nat} (hp : p ≤ 30) (hf : fits (q.num * ((10 ^ p : Nat) : Int)) = true) : downO (p : Int) (some q) = some (dn ((10 ^ p : Nat) : Int) q) := by
  unfold downO dn
  simp only [Int.toNat_natCast]
  rw [if_pos (by rw [hf, decide_eq_true (show (0 : Int) ≤ p by omega), decide_eq_true (show (p : Int) ≤ 30 by omega)]; rfl)]
theorem up_some {q : Rat} {p : Nat} (hp : p ≤ 30) (hf : fits (q.num * ((10 ^ p : Nat) : Int)) = true) (hc : fits (ceilI (q.num * ((10 ^ p : Nat) : Int)) q.den) = true) : upO (p : Int) (some q) = some (upq ((10 ^ p : Nat) : Int) q) := by
  unfold upO upq
  simp only [Int.toNat_natCast]
  rw [if_pos (by rw [hf, hc, decide_eq_true (show (0 : Int) ≤ p by omega), decide_eq_true (show (p : Int) ≤ 30 by omega)]; rfl)]
theorem grd_all {N D : ByteArray} (h : LQ N D) {p : Nat} (hp : p ≤ 30) : ∃ (A1 A2 B1 B2 C1 C2 M1 M2 K1 W1 W2 : ByteArray) (ca cb : Int),
    Cl 23 #[rv N D, .int .i64 p] (.tuple #[.agg #[.string A1, .string A2], .int .i64 0]) ∧ Cl 25 #[rv N D, .int .i64 p] (.tuple #[.agg #[.string B1, .string B2], .int .i64 0]) ∧
    Cl 42 #[rv N D] (rv M1 M2) ∧ Cl 23 #[rv M1 M2, .int .i64 p] (.tuple #[.agg #[.string C1, .string C2], .int .i64 0]) ∧ Cl 42 #[rv C1 C2] (rv B1 B2) ∧
    Cl 20 #[rv A1 A2, rv N D] (.int .i64 ca) ∧ Cl 20 #[rv B1 B2, rv N D] (.int .i64 cb) ∧
    Cl 23 #[rv B1 B2, .int .i64 p] (.tuple #[.agg #[.string B1, .string B2], .int .i64 0]) ∧ Cl 25 #[rv A1 A2, .int .i64 p] (.tuple #[.agg #[.string A1, .string A2], .int .i64 0]) ∧
    Cl 39 #[rv A1 A2, rv (dec ((10 ^ p : Nat) : Int)) ⟨#[49]⟩] (.tuple #[.agg #[.string K1, .string ⟨#[49]⟩], .int .i64 0]) ∧ Cl 40 #[rv B1 B2, rv A1 A2] (.tuple #[.agg #[.string W1, .string W2], .int .i64 0]) ∧
    ((ca = 0 ∧ cb = 0 ∧ W1 = ⟨#[48]⟩ ∧ W2 = ⟨#[49]⟩) ∨ (ca = -1 ∧ cb = 1 ∧ W1 = ⟨#[49]⟩ ∧ W2 = dec ((10 ^ p : Nat) : Int))) := by
  obtain ⟨q, rfl, rfl, h1, h2⟩ := h
  have tn := tens_ne p
  have tp : (0 : Int) < ((10 ^ p : Nat) : Int) := by have := Nat.pow_pos (n := p) (show 0 < 10 by decide); omega
  have tl : ((10 ^ p : Nat) : Int).natAbs < 10 ^ 31 := by
    rw [Int.natAbs_natCast]
    exact Nat.lt_of_le_of_lt (Nat.pow_le_pow_right (by decide) hp) (by decide)
  have okq := lq_ok h1 h2
  have okn : okO (some (-q)) = true := lq_ok (by rw [Rat.neg_num, Int.natAbs_neg]; exact h1) (by rw [Rat.neg_den]; exact h2)
  have f1 := pow_mul_lt h1 tl
  have f1n : ((-q).num * ((10 ^ p : Nat) : Int)).natAbs < 10 ^ (100 + 31) := by rw [Rat.neg_num, Int.neg_mul, Int.natAbs_neg]; exact f1
  have dq := down_some hp (fit_pow f1 (by decide))
  have uq := up_some hp (fit_pow f1 (by decide)) (fit_pow (ceil_lt f1) (by decide))
  have dnq := down_some hp (fit_pow f1n (by decide))
  generalize ht : ((10 ^ p : Nat) : Int) = t at *
  obtain ⟨k1, hk1⟩ : ∃ k, k = q.num * t / q.den := ⟨_, rfl⟩
  obtain ⟨k2, hk2⟩ : ∃ k, k = ceilI (q.num * t) q.den := ⟨_, rfl⟩
  have l1' : k1.natAbs < 10 ^ 132 := by rw [hk1]; exact Nat.lt_of_le_of_lt (Int.natAbs_ediv_le_natAbs _ _) (pow_le_lt f1 (by decide))
  have l2' : k2.natAbs < 10 ^ 132 := by rw [hk2]; exact ceil_lt f1
  have ea : dn t q = Rat.divInt k1 t := by rw [hk1]; rfl
  have eb : upq t q = Rat.divInt k2 t := by rw [hk2]; rfl
  have na := num_lt (d := t) l1'
  have nb := num_lt (d := t) l2'
  have da := den_lt (n := k1) tn tl
  have db := den_lt (n := k2) tn tl
  have oka : okO (some (dn t q)) = true := by rw [ea]; exact okQ_iff.2 ⟨fit_pow na (by decide), fit_pow da (by decide)⟩
  have okb : okO (some (upq t q)) = true := by rw [eb]; exact okQ_iff.2 ⟨fit_pow nb (by decide), fit_pow db (by decide)⟩
  have okc : okO (some (dn t (-q))) = true := by have := down_ok (p : Int) (some (-q)); rw [dnq] at this; exact this
  have okt : okO (some (Rat.divInt t 1)) = true := okQ_iff.2 ⟨by rw [(den_whole t).1]; exact fit_pow tl (by decide), by rw [(den_whole t).2]; exact fits_tiny (by decide)⟩
  have g1 := pow_mul_lt nb tl
  have g2 := pow_mul_lt na tl
  have db2 : downO (p : Int) (some (upq t q)) = some (upq t q) := by
    rw [down_some hp (by rw [ht, eb]; exact fit_pow g1 (by decide)), ht, eb, dn_grid tp]
  have ua2 : upO (p : Int) (some (dn t q)) = some (dn t q) := by
    rw [up_some hp (by rw [ht, ea]; exact fit_pow g2 (by decide)) (by rw [ht, ea]; exact fit_pow (ceil_lt g2) (by decide)), ht, ea, up_grid tp]
  have mu : mulO (some (dn t q)) (some (Rat.divInt t 1)) = some (Rat.divInt k1 1) := by
    unfold mulO
    dsimp only
    rw [if_pos (by rw [(den_whole t).1, (den_whole t).2, ea, fit_pow g2 (by decide), Int.mul_one, fit_pow da (by decide)]; rfl), ea, mul_grid tn]
  have su : subO (some (upq t q)) (some (dn t q)) = some (if q.num * t % q.den = 0 then 0 else Rat.divInt 1 t) := by
    unfold subO
    have m1 := pow_mul_lt nb da
    have m2 := pow_mul_lt na db
    have m3 := pow_mul_lt db da
    dsimp only
    rw [if_pos (by rw [eb, ea, fit_pow m1 (by decide), fit_pow m2 (by decide), fit_pow m3 (by decide), fit_pow (pow_add_lt m1 m2) (by decide)]; rfl), width_is tp]
  have ne : negO (some (dn t (-q))) = some (upq t q) := by
    rw [← up_minus q]
    show some (-dn t (-q)) = _
    congr 1
    grind
  have cN := fun W (hT : Tab W) => minus_q okq W hT
  have cM := fun W (hT : Tab W) => minus_q okc W hT
  rw [ne] at cM
  have cD := fun W (hT : Tab W) => down_q okq W hT (p : Int)
  rw [dq] at cD
  have cU := fun W (hT : Tab W) => up_q okq W hT (p : Int)
  rw [uq] at cU
  have cE := fun W (hT : Tab W) => down_q okn W hT (p : Int)
  rw [dnq] at cE
  have cD2 := fun W (hT : Tab W) => down_q okb W hT (p : Int)
  rw [db2] at cD2
  have cU2 := fun W (hT : Tab W) => up_q oka W hT (p : Int)
  rw [ua2] at cU2
  have cMu := fun W (hT : Tab W) => mul_q oka okt W hT
  rw [mu] at cMu
  have cSu := fun W (hT : Tab W) => sub_q okb oka W hT
  rw [su] at cSu
  have cA := fun W (hT : Tab W) => cmp_q oka okq W hT
  have cB := fun W (hT : Tab W) => cmp_q okb okq W hT
  have t1 : qv (some (Rat.divInt t 1)) = rv (dec t) ⟨#[49]⟩ := by
    unfold qv qtN qtD
    dsimp only
    rw [(den_whole t).1, (den_whole t).2, ← l1]
  have t2 : ov (some (Rat.divInt k1 1)) = .tuple #[.agg #[.string (dec k1), .string ⟨#[49]⟩], .int .i64 0] := by
    unfold ov qtN qtD qtE
    dsimp only
    rw [(den_whole k1).1, (den_whole k1).2, ← l1]
  rw [t1, t2] at cMu
  have hA := dn_le tp q
  have hB := up_ge tp q
  have xA := dn_exact tp q
  have xB := up_exact tp q
  have vA := cmpQ_val (dn t q) q
  have vB := cmpQ_val (upq t q) q
  refine ⟨_, _, _, _, _, _, _, _, _, _, _, _, _, cD, cU, cN, cE, cM, cA, cB, cD2, cU2, cMu, cSu, ?_⟩
  show (cmpQ (dn t q) q = 0 ∧ cmpQ (upq t q) q = 0 ∧ _) ∨ _
  by_cases hx : q.num * t % q.den = 0
  · refine .inl ⟨xA.2 hx, xB.2 hx, ?_, ?_⟩
    · rw [if_pos hx]; exact l0.symm
    · rw [if_pos hx]; exact l1.symm
  · refine .inr ⟨?_, ?_, ?_, ?_⟩
    · have : cmpQ (dn t q) q ≠ 0 := fun e => hx (xA.1 e)
      show cmpQ (dn t q) q = -1
      omega
    · have : cmpQ (upq t q) q ≠ 0 := fun e => hx (xB.1 e)
      show cmpQ (upq t q) q = 1
      omega
    · rw [if_neg hx]
      unfold qtN
      dsimp only
      rw [(divInt_low tp (by simp)).1, ← l1]
    · rw [if_neg hx]
      unfold qtD
      dsimp only
      rw [(divInt_low tp (by simp)).2]
end Go.Proofs.YtahijfoagielbaaGreatDoor
