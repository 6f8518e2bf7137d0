/- extend: what the bounds make of the rows. -/
import Derived.Test.YtkeimfkaoianmaaMk2
import Derived.IntWalk
namespace Go.Proofs.Ytkeimfkaoianmaa
open Go.RowKit

theorem Tbl.put {w : World} {s n k t : Nat} {f g : Int → Int → Int} {v : Int} (h : Tbl w s n f) (hk : k < n) (ht : t < n) (hv : g k t = v) (ho : ∀ a b : Nat, a < n → b < n → ¬ (a = k ∧ b = t) → g a b = f a b) :
    Tbl (w.setCell ⟨s + 1 + k, t, none⟩ (.int .i64 v)) s n g := by
  refine ⟨h.out.aside (p := ⟨s + 1 + k, t, none⟩) (by show s + 1 + k ≠ s; omega) _, fun u hu => ?_⟩
  by_cases e : u = k
  · subst e
    have := (h.rows u hu).stored t (.int .i64 v)
    rw [rowA_set ht hv (fun i hi hne => ho u i hu hi (fun x => hne x.2))] at this
    exact this
  · have := (h.rows u hu).aside (p := ⟨s + 1 + k, t, none⟩) (by show s + 1 + k ≠ s + 1 + u; omega) (.int .i64 v)
    rw [rowA_congr (fun i hi => (ho u i hu hi (fun x => e x.1)).symm)] at this
    exact this

theorem Tbl.drawn {w : World} {s n : Nat} {f : Int → Int → Int} (h : Tbl w s n f) : Tbl w.drew s n f := ⟨h.out, h.rows⟩
/-- Rows before k are done, row k up to bound j. -/
def stage (bs : List Bn) (f g : Int → Int → Int) (k j : Nat) (a v : Int) : Int := if a < k then ext bs (f a) v (g a v) else if a = k then ext (bs.take j) (f a) v (g a v) else g a v
theorem stage_zero (bs : List Bn) (f g : Int → Int → Int) (a v : Int) (ha : 0 ≤ a) : stage bs f g 0 0 a v = g a v := by
  unfold stage
  rw [if_neg (by omega)]
  split <;> rfl
theorem stage_next {bs : List Bn} {f g : Int → Int → Int} {k j : Nat} (hj : bs.length ≤ j) (a v : Int) : stage bs f g k j a v = stage bs f g (k + 1) 0 a v := by
  unfold stage
  rw [List.take_of_length_le hj]
  by_cases h1 : a < (k : Int)
  · rw [if_pos h1, if_pos (by omega)]
  · rw [if_neg h1]
    by_cases h2 : a = (k : Int)
    · rw [if_pos h2, if_pos (by omega)]
    · rw [if_neg h2, if_neg (by omega)]
      split <;> rfl
theorem stage_step {bs : List Bn} {f g : Int → Int → Int} {k j : Nat} {c : Bn} (hc : bs[j]? = some c) (a v : Int) : stage bs f g k (j + 1) a v = if a = k then extStep (f a) v (stage bs f g k j a v) c else stage bs f g k j a v := by
  unfold stage
  have : bs.take (j + 1) = bs.take j ++ [c] := by rw [List.take_add_one, hc]; rfl
  by_cases h1 : a < (k : Int)
  · rw [if_pos h1, if_pos h1, if_neg (by omega)]
  · rw [if_neg h1, if_neg h1]
    by_cases h2 : a = (k : Int)
    · rw [if_pos h2, if_pos h2, if_pos h2, this, ext_snoc]
    · rw [if_neg h2, if_neg h2, if_neg h2]

set_option maxRecDepth 100000 in
set_option maxHeartbeats 8000000 in
theorem extend_any (n : Nat) (bs : List Bn) (A : Option Addr) (c s s2 : Nat) (f g : Int → Int → Int) (hn : n ≤ 16) (ho : Okb n bs) (hL : bs.length ≤ 60)
    (hf : ∀ a b : Nat, a < n → b < n → f a b = farI ∨ (-1000000000000 ≤ f a b ∧ f a b ≤ 1000000000000)) (hss : s + n < s2) (w : World) (hr : Rds w s2 A bs) (ht : Tbl w s n f) (h2 : Tbl w s2 n g) :
    Calls Try.prog 61 #[btw n A bs.length c, tblV s n, tblV s2 n] w fun e w' => e = .returned (.tuple #[]) ∧ Tbl w' s2 n (fun u v => ext bs (f u) v (g u v)) ∧ Below s2 w w' := by
  obtain ⟨L, hLL⟩ : ∃ L, L = bs.length := ⟨_, rfl⟩
  rw [← hLL]
  rw [← hLL] at hL
  have h2i := h2.inside
  have HLL := Lib.hid hLL; have HO := Lib.hid ho; have HR := Lib.hid hr; have HT := Lib.hid ht; have HF := Lib.hid hf
  have ST := Lib.hid (h2.congr (g := stage bs f g 0 0) (fun u v _ _ => (stage_zero bs f g u v (by omega)).symm))
  clear hLL ho hr ht hf h2
  unfold btw tblV
  go_enter Try.func61, Try.ntmps61
  go_wp2
  go_loopg [6, 7, 9, 12] n (fun kx s6 s7 s9 s12 wr => ∃ k : Nat, s12 = .int .i64 (k : Int) ∧ k + kx = n ∧ Tbl wr s2 n (stage bs f g k 0) ∧ Row wr w.heap.size 28 #[.int .i64 (n : Int), .slice A L c] ∧ Below s2 w wr)
  case atStart => exact ⟨0, rfl, by omega, ST.out.grown (World.grownBy_alloc w _ none) (by simp), Row.made _ _ _, (Below.refl _ _).alloc (by omega) _⟩
  case round =>
    obtain ⟨k, rfl, hk, hT, hB, hb⟩ := hrel
    by_cases hlt : k < n
    · have q0 := (HT.out.below hb hss).cell hlt
      obtain ⟨b0, b1, _, _⟩ := hB.two
      have T := Lib.hid hT; have BX := Lib.hid hB; have BB := Lib.hid hb
      clear hT hB hb
      go_wp2
      go_loopg [9, 20] L (fun kx s9 s20 wr => ∃ j : Nat, s20 = .int .i64 (j : Int) ∧ j + kx = L ∧ Tbl wr s2 n (stage bs f g k j) ∧ Row wr w.heap.size 28 #[.int .i64 (n : Int), .slice A L c] ∧ Below s2 w wr)
      case atStart => exact ⟨0, rfl, by omega, T.out, BX.out, BB.out⟩
      case round =>
        clear T BX BB q0 b0 b1
        obtain ⟨j, rfl, hj, hT, hB, hb⟩ := hrel
        by_cases hjl : j < L
        · obtain ⟨⟨x, t, m⟩, hv⟩ : ∃ y, bs[j]? = some y := at_lt (by rw [← HLL.out]; exact hjl)
          obtain ⟨bb, o, hA, hbb, e0, e1, e2⟩ := (HR.out.below hb).at hv
          obtain ⟨⟨x0, x1⟩, ⟨t0, t1⟩, m0, m1⟩ := HO.out.at hv
          dsimp only at e0 e1 e2 x0 x1 t0 t1 m0 m1
          obtain ⟨x, rfl⟩ := Int.eq_ofNat_of_zero_le x0
          obtain ⟨t, rfl⟩ := Int.eq_ofNat_of_zero_le t0
          have x2 : x < n := by omega
          have t2 : t < n := by omega
          have hs := stage_step (f := f) (g := g) (k := k) hv
          obtain ⟨X, hX⟩ : ∃ X, X = wr.alloc (.cells #[.int .i64 (x : Int), .int .i64 (t : Int), .int .i64 m] 30) := ⟨_, rfl⟩
          have bX : Below s2 w X := by rw [hX]; exact hb.alloc (by have := hb.size; omega) _
          have rX : Row X wr.heap.size 30 #[.int .i64 (x : Int), .int .i64 (t : Int), .int .i64 m] := by rw [hX]; exact Row.made _ _ _
          have BXr : Row X w.heap.size 28 #[.int .i64 (n : Int), .slice A L c] := by rw [hX]; exact hB.later _
          have TX : Tbl X s2 n (stage bs f g k j) := by rw [hX]; exact hT.grown (World.grownBy_alloc wr _ none) (by simp)
          have hT0 := HT.out.below hb hss
          have hT1 := HT.out.below bX hss
          have w0 := hT0.val hlt x2
          have w1 : s + 1 + k < wr.heap.size := by have := hT0.inside; omega
          have w2 := hB.inside
          have y0 := hT1.val hlt x2
          have y1 := TX.cell hlt
          have y2 := TX.val hlt t2
          have y3 := (TX.rows k hlt).free t
          obtain ⟨z0, z1, z2, _, _, _⟩ := rX.three
          obtain ⟨fx, hfx⟩ : ∃ fx, fx = f k x := ⟨_, rfl⟩
          obtain ⟨gx, hgx⟩ : ∃ gx, gx = stage bs f g k j k t := ⟨_, rfl⟩
          have hfb := HF.out k x hlt x2
          rw [← hfx] at y0 hfb w0
          rw [← hgx] at y2
          have HS := Lib.hid hs; have HFX := Lib.hid hfx; have HGX := Lib.hid hgx; have BX := Lib.hid bX; have BR := Lib.hid BXr; have TT := Lib.hid TX; have HT1 := Lib.hid hT1
          have TB := Lib.hid hT; have BB := Lib.hid hb; have BBr := Lib.hid hB
          subst hA
          have HX := Lib.hid hX
          clear hX hT0 hs hfx hgx bX rX BXr TX hT1 hT hb hB hv
          by_cases hfar : fx = 1152921504606846976
          · have HFAR := Lib.hid hfar
            subst hfar
            clear hfb
            clear y0 y1 y2 y3 z0 z1 z2 HX
            go_wp2
            go_roundg (L - (j + 1))
            case measure => omega
            case rel =>
              refine ⟨j + 1, by go_num, by omega, (TB.out.congr (g := stage bs f g k (j + 1)) (fun a b _ _ => ?_)).grown (World.grownBy_alloc wr _ none) (by simp), BBr.out.later _, BB.out.alloc (by have := BB.out.size; omega) _⟩
              rw [HS.out]
              by_cases e : a = k
              · subst e
                rw [if_pos rfl, extStep, if_neg (by intro h; exact h.2 (by rw [← HFX.out]; rfl))]
              · rw [if_neg (by omega)]
          · have hf2 : -1000000000000 ≤ fx ∧ fx ≤ 1000000000000 := by
              rcases hfb with h | h
              · exact absurd h hfar
              · exact h
            obtain ⟨f1, f2⟩ := hf2
            have d1 : (fx != 1152921504606846976) = true := by simpa using hfar
            have HFAR := Lib.hid hfar
            clear hfb hfar
            obtain ⟨mv, hmv⟩ : ∃ mv, mv = min gx (fx + m) := ⟨_, rfl⟩
            have em : (if fx + m < gx then fx + m else gx) = mv := by rw [hmv, Int.min_def]; split <;> split <;> omega
            have ew : IntKind.i64.wrap (fx + m) = fx + m := IntWalk.i64_in _ (by omega)
            have HMV := Lib.hid hmv
            clear hmv
            go_upto_region 8 with (fail)
            rw [← HX.out]
            clear HX w0 w1 w2
            go_still_tail 24, (by kernel_rfl)
            change wpList _ _ _ _ _ X.drew
            clear y0 y1 z0 z1 z2
            go_wp2
            go_roundg (L - (j + 1))
            case measure => omega
            case rel =>
              have hput := TT.out.put (g := stage bs f g k (j + 1)) hlt t2 (v := mv) (by
                  rw [HS.out, if_pos rfl, extStep, if_pos ⟨rfl, by rw [← HFX.out]; exact HFAR.out⟩, ← HGX.out, HMV.out, ← HFX.out])
                (fun a b ha hb hne => by
                  rw [HS.out]
                  by_cases e : a = k
                  · subst e
                    have hbt : ¬ b = t := fun e => hne ⟨rfl, e⟩
                    rw [if_pos rfl, extStep, if_neg (by intro h; have := h.1; dsimp only at this; omega)]
                  · rw [if_neg (by omega)])
              exact ⟨j + 1, by go_num, by omega, hput.drawn, (BR.out.aside (p := ⟨s2 + 1 + k, t, none⟩) (by have := BR.out.inside; have := TT.out.inside; have := BX.out.size; show s2 + 1 + k ≠ w.heap.size; omega) _).drawn, (BX.out.setCell (p := ⟨s2 + 1 + k, t, none⟩) (by show s2 ≤ s2 + 1 + k; omega) _).drew⟩
        · obtain rfl : j = L := by omega
          have T := Lib.hid hT; have BX := Lib.hid hB; have BB := Lib.hid hb
          clear hT hB hb
          go_wp2
          go_roundg (n - (k + 1))
          case measure => omega
          case rel => exact ⟨k + 1, by go_num, by omega, T.out.congr (fun u v _ _ => stage_next (by rw [← HLL.out]; exact Nat.le_refl _) u v), BX.out, BB.out⟩
    · obtain rfl : k = n := by omega
      have T := Lib.hid hT; have BB := Lib.hid hb
      clear hT hB hb
      go_wp2
      go_end0
      exact ⟨rfl, T.out.congr (fun u v hu _ => by unfold stage; rw [if_pos (by omega)]), BB.out⟩
end Go.Proofs.Ytkeimfkaoianmaa
