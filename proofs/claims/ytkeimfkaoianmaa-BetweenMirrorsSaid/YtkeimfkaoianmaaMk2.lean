/- emptyChains, and what it returns. -/
import Derived.Test.YtkeimfkaoianmaaMk
import Derived.Shelf.Abstract
namespace Go.Proofs.Ytkeimfkaoianmaa
open Go.RowKit

/-- The first sums: block g, behind which each row lies somewhere. -/
def Zer (w : World) (b0 g n k : Nat) : Prop := ∃ C : Array Value, Row w g 22 C ∧ C.size = n ∧ ∀ u : Nat, u < k → ∃ hb, b0 ≤ hb ∧ C[u]? = some (.slice (some ⟨hb, 0, none⟩) n n) ∧ Row w hb 3 (rowA n (z0 u))
theorem Zer.hole {w : World} {b0 g n k : Nat} (h : Zer w b0 g n k) {u : Nat} (hu : u < n) : (∃ v, w.cell? ⟨g, u, none⟩ = some v) ∧ w.frozen? ⟨g, u, none⟩ = false := by
  obtain ⟨C, h1, h2, h3⟩ := h
  exact ⟨⟨C[u]'(by omega), h1.at (by simp)⟩, h1.free u⟩
theorem Zer.step {w W : World} {b0 g n k : Nat} (h : Zer w b0 g n k) (hb : Below w.heap.size w W) : Zer W b0 g n k := by
  obtain ⟨C, h1, h2, h3⟩ := h
  exact ⟨C, h1.step hb, h2, fun u hu => by obtain ⟨b, b1, e, r⟩ := h3 u hu; exact ⟨b, b1, e, r.step hb⟩⟩
theorem Zer.at {w : World} {b0 g n u : Nat} (h : Zer w b0 g n n) (hu : u < n) : ∃ hb, w.cell? ⟨g, u, none⟩ = some (.slice (some ⟨hb, 0, none⟩) n n) ∧ Row w hb 3 (rowA n (z0 u)) := by
  obtain ⟨C, h1, h2, h3⟩ := h
  obtain ⟨b, _, e, r⟩ := h3 u hu
  exact ⟨b, h1.at e, r⟩
theorem made_sl (n : Nat) : madeCells #[Value.slice none 0 0] n = Array.replicate n (Value.slice none 0 0) := by
  apply Array.toList_inj.1
  rw [toList_madeCells_one]; simp

theorem tbl_info : (Try.prog.info? 22).map (·.size) = some 1 := by kernel_rfl

theorem below_rep {W w5 : World} {o : Obj} (h : Below (W.alloc o).drew.heap.size (W.alloc o).drew w5) : Below W.heap.size W w5 := below_step ((below_alloc W o).drew) h
/-- The state of emptyChains when k rows are laid. -/
structure Est (w : World) (N n k : Nat) (W : World) : Prop where
  p : Row W N 3 #[.int .i64 (n : Int)]
  q : Row W (N + 1 + 1) 63 #[.slice (some ⟨N + 1, 0, none⟩) n n]
  z : Zer W N (N + 1) n k
  b : Below w.heap.size w W
theorem Est.step {w W X : World} {N n k : Nat} (h : Est w N n k W) (hb : Below W.heap.size W X) : Est w N n k X := ⟨h.p.step hb, h.q.step hb, h.z.step hb, below_step h.b hb⟩
theorem Est.alloc {w W : World} {N n k : Nat} (h : Est w N n k W) (o : Obj) : Est w N n k (W.alloc o) := h.step (below_alloc W o)
theorem Est.drew {w W : World} {N n k : Nat} (h : Est w N n k W) : Est w N n k W.drew := h.step ((Below.refl _ W).drew)
theorem Zer.put {W : World} {b0 g n k : Nat} (h : Zer W b0 g n k) (v : Value) (hrow : ∀ (u : Nat) C hb, u < k → Row W g 22 C → C[u]? = some (.slice (some ⟨hb, 0, none⟩) n n) → Row W hb 3 (rowA n (z0 u)) → hb ≠ g) : Zer (W.setCell ⟨g, k, none⟩ v) b0 g n k := by
  obtain ⟨C, h1, h2, h3⟩ := h
  refine ⟨_, h1.stored k v, by simp [h2], fun u hu => ?_⟩
  obtain ⟨hb, b1, e, r⟩ := h3 u hu
  exact ⟨hb, b1, by rw [Array.getElem?_setIfInBounds_ne (by omega)]; exact e, r.aside (p := ⟨g, k, none⟩) (fun e' => hrow u C hb hu h1 e r e'.symm) v⟩
theorem rows_ne {W : World} {g h : Nat} {C D : Array Value} (a : Row W g 22 C) (b : Row W h 3 D) : h ≠ g := by
  rintro rfl
  have e : some (Obj.cells C 22 (0, 0)) = some (Obj.cells D 3 (0, 0)) := (show W.heap[h]? = _ from a).symm.trans b
  injection e with e
  injection e with _ e _
  exact absurd e (by decide)
theorem Est.put {w W : World} {n k : Nat} (h : Est w w.heap.size n k W) (v : Value) : Est w w.heap.size n k (W.setCell ⟨w.heap.size + 1, k, none⟩ v) :=
  ⟨h.p.aside (p := ⟨w.heap.size + 1, k, none⟩) (by simp) v, h.q.aside (p := ⟨w.heap.size + 1, k, none⟩) (by simp) v, h.z.put v (fun u C hb hu a e b => rows_ne a b), h.b.setCell (p := ⟨w.heap.size + 1, k, none⟩) (Nat.le_succ _) v⟩
theorem rowA_z0 {n k : Nat} (hk : k < n) : (rowA n fun _ => 1152921504606846976).setIfInBounds k (.int .i64 0) = rowA n (z0 (k : Int)) :=
  rowA_set hk (by simp [z0]) (fun i _ hne => by unfold z0 farI; rw [if_neg (by omega)])
theorem Est.next {w W w5 : World} {n k h0 : Nat} (h : Est w w.heap.size n k W) (hb : Below W.heap.size W w5) (r : Row w5 h0 3 (rowA n fun _ => 1152921504606846976)) (hh : W.heap.size ≤ h0) (hk : k < n) :
    Est w w.heap.size n (k + 1) ((w5.setCell ⟨w.heap.size + 1, k, none⟩ (.slice (some ⟨h0, 0, none⟩) n n)).setCell ⟨h0, k, none⟩ (.int .i64 0)) := by
  have e5 := h.step hb
  have e6 := e5.put (.slice (some ⟨h0, 0, none⟩) n n)
  have pin := h.p.inside
  have qin := h.q.inside
  obtain ⟨C, c1, c2, c3⟩ := h.z
  have gin := c1.inside
  have r6 : Row (w5.setCell ⟨w.heap.size + 1, k, none⟩ (.slice (some ⟨h0, 0, none⟩) n n)) h0 3 (rowA n fun _ => 1152921504606846976) := r.aside (p := ⟨w.heap.size + 1, k, none⟩) (by show w.heap.size + 1 ≠ h0; omega) _
  have c6 := (c1.step hb).stored k (.slice (some ⟨h0, 0, none⟩) n n)
  refine ⟨e6.p.aside (p := ⟨h0, k, none⟩) (by show h0 ≠ _; omega) _, e6.q.aside (p := ⟨h0, k, none⟩) (by show h0 ≠ _; omega) _, ⟨_, c6.aside (p := ⟨h0, k, none⟩) (by show h0 ≠ _; omega) _, by simp [c2], fun u hu => ?_⟩, e6.b.setCell (p := ⟨h0, k, none⟩) (by show w.heap.size ≤ h0; omega) _⟩
  rcases Nat.lt_or_ge u k with hlt | hge
  · obtain ⟨hx, bx, ex, rx⟩ := c3 u hlt
    have xin := rx.inside
    refine ⟨hx, bx, by rw [Array.getElem?_setIfInBounds_ne (by omega)]; exact ex, ?_⟩
    exact ((rx.step hb).aside (p := ⟨w.heap.size + 1, k, none⟩) (fun e' => rows_ne c1 rx e'.symm) _).aside (p := ⟨h0, k, none⟩) (by show h0 ≠ _; omega) _
  · obtain rfl : u = k := by omega
    refine ⟨h0, by omega, ?_, ?_⟩
    · rw [Array.getElem?_setIfInBounds_self_of_lt (by omega)]
    · rw [← rowA_z0 hk]; exact r6.stored u _
set_option maxRecDepth 100000 in
set_option maxHeartbeats 4000000 in
theorem emptyChains_any (n : Nat) (hn : n ≤ 16) (w : World) :
    Calls Try.prog 60 #[.int .i64 (n : Int)] w fun e w' => ∃ p q g : Nat, e = .returned (.func (.func 67) #[] #[.pointer (some ⟨p, 0, none⟩), .pointer (some ⟨q, 0, none⟩)]) ∧
      Row w' p 3 #[.int .i64 (n : Int)] ∧ Row w' q 63 #[.slice (some ⟨g, 0, none⟩) n n] ∧ Zer w' w.heap.size g n n ∧ (w.heap.size ≤ p ∧ w.heap.size ≤ q ∧ w.heap.size ≤ g) ∧ Below w.heap.size w w' := by
  have hmk := fun (W : World) => run_make_row' (P := Try.prog) 63 22 (.slice none 0 0) 24 Try.underlying63 sl_info rfl .i64 .i64 n (by omega) (by omega) W
  simp only [made_sl] at hmk
  have start : Est w w.heap.size n 0 (((w.alloc (.cells #[.int .i64 (n : Int)] 3)).alloc (.cells (Array.replicate n (.slice none 0 0)) 22)).alloc (.cells #[.slice (some ⟨w.heap.size + 1, 0, none⟩) n n] 63)) := by
    exact ⟨((Row.made _ _ _).later _).later _, Row.made_at _ _ _ (by simp), ⟨_, (Row.made_at _ _ _ (by simp)).later _, by simp, fun u hu => absurd hu (by omega)⟩, keep_alloc (keep_alloc (below_alloc _ _) _) _⟩
  have ST := Lib.hid start
  clear start
  go_enter Try.func60, Try.ntmps60
  go_wp2
  go_loopg [4, 8] n (fun kx s4 s8 wr => ∃ k : Nat, s8 = .int .i64 (k : Int) ∧ k + kx = n ∧ Est w w.heap.size n k wr)
  case atStart => exact ⟨0, rfl, by omega, ST.out⟩
  case round =>
    obtain ⟨k, rfl, hk, E⟩ := hrel
    by_cases hlt : k < n
    · have k0 := fun (W : World) (h : Est w w.heap.size n k W) => h.p.at (i := 0) rfl
      have k1 := fun (W : World) (h : Est w w.heap.size n k W) => h.q.at (i := 0) rfl
      have kk : ∀ W, Est w w.heap.size n k W → (Hid (Est w w.heap.size n k W) ∧ W.cell? ⟨w.heap.size, 0, none⟩ = some (.int .i64 (n : Int)) ∧ W.cell? ⟨w.heap.size + 1 + 1, 0, none⟩ = some (.slice (some ⟨w.heap.size + 1, 0, none⟩) n n)) := fun W h => ⟨Lib.hid h, k0 W h, k1 W h⟩
      have KK := Lib.hid kk; have HE := Lib.hid E
      obtain ⟨_, e0, e1⟩ := kk wr E
      clear kk k0 k1 E hmk
      have hrp := fun (W : World) => repeat_any W.heap.size n 1 1152921504606846976 (by omega) (by omega) (W.alloc (.cells #[.int .i64 1152921504606846976] 3)).drew ((Row.made W 3 #[.int .i64 1152921504606846976]).at rfl)
      have HRP := Lib.hid hrp
      clear hrp
      go_upto_region 5 with (fail)
      go_region_held3 (fun W => Hid (Est w w.heap.size n k W) ∧ W.cell? ⟨w.heap.size, 0, none⟩ = some (.int .i64 (n : Int)) ∧ W.cell? ⟨w.heap.size + 1 + 1, 0, none⟩ = some (.slice (some ⟨w.heap.size + 1, 0, none⟩) n n))
        (first | assumption | exact KK.out _ (HE.out.drew) | exact KK.out _ (Est.alloc (Hid.out (And.left (by assumption))) _) | exact KK.out _ (Est.step (Hid.out (And.left (by assumption))) (by assumption)) | exact KK.out _ (E5.out.put _) | fail)
        ((go_at_call 66; (with_reducible refine (HRP.out _).mono ?_); rintro e w5 ⟨rfl, r5, b5⟩; have E5 := Lib.hid (HE.out.step (below_rep b5)); obtain ⟨⟨z0, z1⟩, z2⟩ := E5.out.z.hole hlt; have R5 := Lib.hid r5; clear r5))
      have b5' := below_rep b5
      have e6 := E5.out.put (.slice (some ⟨wr.heap.size + 1, 0, none⟩) n n)
      have r5 : Row w5 (wr.heap.size + 1) 3 (rowA n fun _ => 1152921504606846976) := by have := R5.out; simpa using this
      have hin := E5.out.b.size
      have gw : w.heap.size + 1 < wr.heap.size := by have := HE.out.q.inside; omega
      have r6 := r5.aside (p := ⟨w.heap.size + 1, k, none⟩) (by show w.heap.size + 1 ≠ wr.heap.size + 1; omega) (.slice (some ⟨wr.heap.size + 1, 0, none⟩) n n)
      have q0 := e6.q.at (i := 0) rfl
      have q1 : (w5.setCell ⟨w.heap.size + 1, k, none⟩ (.slice (some ⟨wr.heap.size + 1, 0, none⟩) n n)).cell? ⟨w.heap.size + 1, k, none⟩ = some (.slice (some ⟨wr.heap.size + 1, 0, none⟩) n n) := World.cell?_setCell_same' _ _ _ (by rw [z1]; rfl)
      have q2 := r6.at (rowA_at _ hlt)
      have q3 := r6.free k
      have EN := Lib.hid (HE.out.next b5' r5 (Nat.le_succ _) hlt)
      generalize hW6 : w5.setCell ⟨w.heap.size + 1, k, none⟩ (.slice (some ⟨wr.heap.size + 1, 0, none⟩) n n) = W6 at *
      clear hW6 z0 z1 z2 e6 r5 r6 b5 b5' e0 e1
      go_wp2
      go_roundg (n - (k + 1))
      case measure => omega
      case rel => exact ⟨k + 1, by go_num, by omega, EN.out⟩
    · obtain rfl : k = n := by omega
      have HE := Lib.hid E
      clear E hmk
      go_wp2
      go_ret
      exact ⟨w.heap.size, w.heap.size + 1 + 1, w.heap.size + 1, rfl, HE.out.p, HE.out.q, HE.out.z, ⟨Nat.le_refl _, by omega, by omega⟩, HE.out.b⟩

/-- The function value that emptyChains returns, with what it has captured. -/
structure Mkr (W : World) (b0 p q g n : Nat) : Prop where
  p : Row W p 3 #[.int .i64 (n : Int)]
  q : Row W q 63 #[.slice (some ⟨g, 0, none⟩) n n]
  z : Zer W b0 g n n
theorem Mkr.step {W X : World} {b0 p q g n : Nat} (h : Mkr W b0 p q g n) (hb : Below W.heap.size W X) : Mkr X b0 p q g n := ⟨h.p.step hb, h.q.step hb, h.z.step hb⟩
/-- The table when k rows are laid. -/
structure Mst (w : World) (n k : Nat) (W : World) : Prop where
  out : ∃ C : Array Value, Row W w.heap.size 22 C ∧ C.size = n ∧ ∀ u : Nat, u < k → C[u]? = some (.slice (some ⟨w.heap.size + 1 + u, 0, none⟩) n n)
  rows : ∀ u : Nat, u < k → Row W (w.heap.size + 1 + u) 3 (rowA n (z0 u))
  size : W.heap.size = w.heap.size + 1 + k
  b : Below w.heap.size w W
theorem Mst.full {w W : World} {n : Nat} (h : Mst w n n W) : Tbl W w.heap.size n z0 := by
  obtain ⟨C, h1, h2, h3⟩ := h.out
  refine ⟨?_, h.rows⟩
  have : C = outA n w.heap.size := by
    apply Array.ext_getElem?
    intro i
    by_cases hi : i < n
    · rw [h3 i hi, outA_at _ hi]
    · rw [Array.getElem?_eq_none (by omega), Array.getElem?_eq_none (by rw [outA_size]; omega)]
  rw [← this]; exact h1
theorem Mst.next {w W X : World} {n k : Nat} (h : Mst w n k W) (hk : k < n) (hX : X = (((W.setCell ⟨w.heap.size, k, none⟩ (.slice (some ⟨W.heap.size, 0, none⟩) n n)).alloc (.cells (rowA n fun _ => 0) 3)).drew).setRow W.heap.size (rowA n (z0 k))) : Mst w n (k + 1) X := by
  obtain ⟨C, h1, h2, h3⟩ := h.out
  have hs := h.size
  have g1 := h1.inside
  have c1 := ((h1.stored k (.slice (some ⟨W.heap.size, 0, none⟩) n n)).later (.cells (rowA n fun _ => 0) 3)).drawn
  have r1 := (Row.made_at (W.setCell ⟨w.heap.size, k, none⟩ (.slice (some ⟨W.heap.size, 0, none⟩) n n)) 3 (rowA n fun _ => 0) (g := W.heap.size) (by simp)).drawn
  subst hX
  refine ⟨⟨_, setRow_aside c1 (by omega) _, by simp [h2], fun u hu => ?_⟩, fun u hu => ?_, by simp; omega, ?_⟩
  · rcases Nat.lt_or_ge u k with hlt | hge
    · rw [Array.getElem?_setIfInBounds_ne (by omega)]; exact h3 u hlt
    · obtain rfl : u = k := by omega
      rw [Array.getElem?_setIfInBounds_self_of_lt (by omega), hs]
  · rcases Nat.lt_or_ge u k with hlt | hge
    · exact setRow_aside ((((h.rows u hlt).aside (p := ⟨w.heap.size, k, none⟩) (by show w.heap.size ≠ _; omega) _).later _).drawn) (by omega) _
    · obtain rfl : u = k := by omega
      rw [← hs]; exact setRow_self r1 _
  · exact below_row (((h.b.setCell (p := ⟨w.heap.size, k, none⟩) (Nat.le_refl _) _).alloc (by simp; omega) _).drew) (by omega) _

set_option maxRecDepth 100000 in
set_option maxHeartbeats 4000000 in
theorem empty_any (b0 p q g n : Nat) (hn : n ≤ 16) (w : World) (h : Mkr w b0 p q g n) :
    Calls Try.prog 67 #[.pointer (some ⟨p, 0, none⟩), .pointer (some ⟨q, 0, none⟩)] w fun e w' => e = .returned (tblV w.heap.size n) ∧ Tbl w' w.heap.size n z0 ∧ Below w.heap.size w w' := by
  have hmk := fun (W : World) => run_make_row' (P := Try.prog) 63 22 (.slice none 0 0) 24 Try.underlying63 sl_info rfl .i64 .i64 n (by omega) (by omega) W
  have hmr := fun (W : World) => run_make_row' (P := Try.prog) 22 3 (.int .i64 0) 8 Try.underlying22 int_info rfl .i64 .i64 n (by omega) (by omega) W
  simp only [made_sl] at hmk
  simp only [made_row] at hmr
  have start : Mst w n 0 (w.alloc (.cells (Array.replicate n (.slice none 0 0)) 22)) :=
    ⟨⟨_, Row.made _ _ _, by simp, fun u hu => absurd hu (by omega)⟩, fun u hu => absurd hu (by omega), by simp, below_alloc _ _⟩
  have k0 := h.p.at (i := 0) rfl
  have k0i := h.p.inside
  have ST := Lib.hid start; have H := Lib.hid h
  clear start h
  unfold tblV
  go_enter Try.func67, Try.ntmps67
  go_wp2
  go_loopg [4, 8] n (fun kx s4 s8 wr => ∃ k : Nat, s8 = .int .i64 (k : Int) ∧ k + kx = n ∧ Mst w n k wr)
  case atStart => exact ⟨0, rfl, by omega, ST.out⟩
  case round =>
    clear k0 ST
    obtain ⟨k, rfl, hk, M⟩ := hrel
    by_cases hlt : k < n
    · have hm := H.out.step M.b
      have m0 := hm.p.at (i := 0) rfl
      have m0i := hm.p.inside
      have m1 := hm.q.at (i := 0) rfl
      have m1i := hm.q.inside
      obtain ⟨hb, m2, r2⟩ := hm.z.at hlt
      obtain ⟨C, c1, c2, c3⟩ := M.out
      obtain ⟨v0, hv0⟩ : ∃ v0, C[k]? = some v0 := ⟨C[k]'(by omega), by simp⟩
      have s0 := c1.at hv0
      have s1 := c1.free k
      have sin := c1.inside
      have hs := M.size
      obtain ⟨W2, hW2⟩ : ∃ W2, W2 = ((wr.setCell ⟨w.heap.size, k, none⟩ (.slice (some ⟨wr.heap.size, 0, none⟩) n n)).alloc (.cells (rowA n fun _ => 0) 3)) := ⟨_, rfl⟩
      have EN := Lib.hid (M.next hlt (X := (W2.drew).setRow wr.heap.size (rowA n (z0 k))) (by rw [hW2]))
      have t0 : W2.cell? ⟨w.heap.size, k, none⟩ = some (.slice (some ⟨wr.heap.size, 0, none⟩) n n) := by
        rw [hW2]
        exact ((c1.stored k _).later _).at (by rw [Array.getElem?_setIfInBounds_self_of_lt (by omega)])
      have t1 : Row W2 wr.heap.size 3 (rowA n fun _ => 0) := by rw [hW2]; exact Row.made_at _ _ _ (by simp)
      have bw : Below wr.heap.size wr (wr.alloc (.cells (rowA n fun _ => 0) 3)) := below_alloc _ _
      have bq : Below w.heap.size w W2 := by rw [hW2]; exact (M.b.setCell (p := ⟨w.heap.size, k, none⟩) (Nat.le_refl _) _).alloc (by simp; omega) _
      have hm2 := H.out.step bq
      have u0 := hm2.q.at (i := 0) rfl
      obtain ⟨hb', u2, u3⟩ := hm2.z.at hlt
      have hcp := copy_all W2.drew 3 wr.heap.size hb' n (z0 k) _ t1.drawn (rowA_size _ _) (fun j hj => u3.drawn.at (rowA_at _ hj))
      have T1 := Lib.hid t1
      clear t1 bw bq hm2 u3 hm m2 r2 c1 c2 c3 hv0 hs M H m1 m1i
      go_upto_region 6 with (fail)
      rw [← hW2]
      have HW2 := Lib.hid hW2
      clear hW2 s0 s1 m0
      go_region
      all_goals go_wp2
      all_goals go_roundg (n - (k + 1))
      case measure => omega
      case rel => exact ⟨k + 1, by go_num, by omega, EN.out⟩
    · obtain rfl : k = n := by omega
      have HM := Lib.hid M
      clear M hmk hmr
      go_wp2
      go_ret
      exact ⟨rfl, HM.out.full, HM.out.b⟩
end Go.Proofs.Ytkeimfkaoianmaa
