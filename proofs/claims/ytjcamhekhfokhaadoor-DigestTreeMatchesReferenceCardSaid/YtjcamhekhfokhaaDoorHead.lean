/- dialtonelaw02.heads, and dialtoneref02.Same. -/
import Derived.Test.YtjcamhekhfokhaaDoorHeadM
namespace Go.Proofs.YtjcamhekhfokhaaDoor
open Go.RowKit

theorem zero_make (W : World) : (Instr.makeSlice 43 (.int .i64 32) (.int .i64 32)).run Tryd.prog W = .ok (.slice (some ⟨W.heap.size, 0, none⟩) 32 32) (W.alloc (.cells (Array.replicate 32 (.int .u8 0)) 5)) := by kernel_rfl
theorem zero_at (i : Nat) (h : i < 32) : (Array.replicate 32 (Value.int .u8 0))[i]? = some (.int .u8 (((List.replicate 32 (0 : UInt8))[i]'(by simpa using h)).toNat : Int)) := by
  rw [Array.getElem?_replicate, if_pos h, List.getElem_replicate]; rfl
theorem zero_conv (W X : World) (hX : Row X W.heap.size 5 (Array.replicate 32 (.int .u8 0))) : (convert 43 9 (.slice (some ⟨W.heap.size, 0, none⟩) 32 32)).run Tryd.prog X = .ok (.string zero32) X := by
  have := run_convert_bytes_back (P := Tryd.prog) X 43 9 5 ⟨W.heap.size, 0, none⟩ 32 (List.replicate 32 0) Tryd.underlying43 Tryd.underlying5 Tryd.underlying9 (by
    intro i hi
    have e0 : (⟨W.heap.size, 0, none⟩ : Addr).add i = ⟨W.heap.size, i, none⟩ := by unfold Addr.add; split <;> simp_all
    rw [e0]
    exact hX.at (zero_at i (by simpa using hi)))
  exact this

def HeadRes (w : World) (xs : List ByteArray) (e : Ending) (w' : World) : Prop := ∃ v, e = .returned (.tuple #[v, .string (hdR xs.reverse)]) ∧ w'.ownsRow w.heap.size 9 1 v (hlR xs.reverse).length ((hlR xs.reverse).map Value.string) ∧ Below w.heap.size w w'

set_option maxRecDepth 100000 in
set_option maxHeartbeats 2000000 in
theorem heads_any (A : Option Addr) (c n : Nat) (xs : List ByteArray) (w : World) (hn : n = xs.length) (hnm : n ≤ 100) (ht : Tab w) (hS : Strs w w.heap.size A xs) (hz : ∀ s ∈ xs, s.size ≤ 1000) :
    Calls Tryd.prog 36 #[.slice A n c] w (HeadRes w xs) := by
  have HT := Lib.hid ht; have HS := Lib.hid hS; have HZ := Lib.hid hz; have HN := Lib.hid hn
  clear ht hS hz hn
  have hmk := zero_make
  have hcv := fun W : World => zero_conv W (W.alloc (.cells (Array.replicate 32 (.int .u8 0)) 5)) (Row.made W _ _)
  go_enter Tryd.func36, Tryd.ntmps36
  go_wp2
  clear hmk hcv
  have b0 := below_alloc w (.cells (Array.replicate 32 (.int .u8 0)) 5)
  go_loopw [4, 5, 6] (fun h v p wr => ∃ j : Nat, p = .int .i64 j ∧ j ≤ n ∧ h = .string (hdR (xs.take j).reverse) ∧ wr.ownsRow w.heap.size 9 1 v (hlR (xs.take j).reverse).length ((hlR (xs.take j).reverse).map Value.string) ∧ Below w.heap.size w wr) (fun _ _ p _ => n - (intOf p).toNat)
  case atStart => exact ⟨0, rfl, by omega, rfl, World.ownsRow_nil _ _ _ _, b0⟩
  case round =>
    obtain ⟨j, rfl, hjn, rfl, hrow, hbr⟩ := hrel
    by_cases hlt : j < n
    · have hjx : j < xs.length := by rw [← HN.out]; exact hlt
      obtain ⟨b, o, rfl, hB⟩ := strs_some HS.out (by intro e; rw [e] at hjx; simp at hjx)
      have cj := (hbr.cell (p := ⟨b, o + j, none⟩) hB).trans (strs_cell HS.out j xs[j] (List.getElem?_eq_getElem hjx))
      have kz := HZ.out xs[j] (List.getElem_mem hjx)
      obtain ⟨X, hX⟩ : ∃ s, s = xs[j] := ⟨_, rfl⟩
      rw [← hX] at cj kz
      have hnr : (xs.take (j + 1)).reverse = X :: (xs.take j).reverse := by rw [List.take_succ_eq_append_getElem hjx, hX]; simp
      have hlen : j = (hlR (xs.take j).reverse).length := by rw [hlR_len]; simp; omega
      have hn1 : hdR (xs.take (j + 1)).reverse = chainS (hdR (xs.take j).reverse) X := by rw [hnr]; rfl
      have hn2 : hlR (xs.take (j + 1)).reverse = chainT (hdR (xs.take j).reverse) X :: hlR (xs.take j).reverse := by rw [hnr]; rfl
      have hh := hdR_size (xs.take j).reverse
      obtain ⟨H, hH⟩ : ∃ H, H = hdR (xs.take j).reverse := ⟨_, rfl⟩
      obtain ⟨ls, hls⟩ : ∃ L, L = hlR (xs.take j).reverse := ⟨_, rfl⟩
      rw [← hH] at hn1 hn2 hh ⊢
      rw [← hls] at hrow hlen hn2
      obtain ⟨T, hTT⟩ : ∃ T, chainT H X = T := ⟨_, rfl⟩
      have hT2 : (⟨#[2]⟩ : ByteArray) ++ H ++ X = T := hTT
      rw [hTT] at hn2
      obtain ⟨A5, c5, rfl, s5, n5, m5⟩ := own_strs_n ls hlen hrow
      have hB' : b < wr.heap.size := Nat.lt_of_lt_of_le hB hbr.size
      have a5 := below_alloc wr (.cells #[.string T] 9)
      have S5 := Lib.hid ((s5.below a5).more a5.size)
      have O5 := own_new wr #[.string T] 1 rfl (by decide)
      have T5 := Lib.hid (HT.out.below hbr)
      have lm5 : 1 + j ≤ 1000 := by omega
      have N1 := Lib.hid hn1; have N2 := Lib.hid hn2; have HL := Lib.hid hlen; have CJ := Lib.hid cj
      have j0 : (0 : Int) ≤ (j : Int) := by omega
      have j1 : (j : Int) < (n : Int) := by omega
      have ca := (a5.cell (p := ⟨b, o + j, none⟩) hB').trans cj
      clear hrow s5 hX hnr hn1 hn2 hls hH hTT hlen hjx
      go_wp2_with (first
        | (go_at_call 19; ((with_reducible refine (chain_any H X (by omega) (by omega) _ T6.out).mono ?_); rintro e w7 ⟨rfl, b7⟩))
        | (at_builtin; (refine wpList_append_strs rfl _ _ rfl wr.heap.size _ 1 [T] rfl O5 A5 j c5 ls rfl HL.out S5.out lm5 a5.size ?_; intro v6 w6 o6 g6; have b6 := keep_grown a5 g6 O5; have T6 := Lib.hid (T5.out.below b6); have c6 := (b6.cell (p := ⟨b, o + j, none⟩) hB').trans CJ.out)))
      go_roundw
      case rel =>
        refine ⟨j + 1, by go_num, by omega, by rw [N1.out], ?_, below_step hbr (below_step b6 b7)⟩
        have hl6 : 1 + j = (T :: ls).length := by rw [List.length_cons, ← HL.out]; omega
        rw [N2.out, ← hl6]
        exact own_less (own_over o6 b7) hbr.size
      case measure => simp [intOf]; omega
    · have hall : xs.take j = xs := List.take_of_length_le (by rw [← HN.out]; omega)
      rw [hall] at hrow ⊢
      clear hall
      go_wp2
      go_ret2
      exact ⟨_, rfl, hrow, hbr⟩

set_option maxRecDepth 100000 in
set_option maxHeartbeats 1000000 in
theorem same_any (A1 A2 : Option Addr) (c1 c2 n1 n2 : Nat) (xs ys : List ByteArray) (w : World) (h1 : n1 = xs.length) (h2 : n2 = ys.length) (m1 : n1 ≤ 1000) (m2 : n2 ≤ 1000)
    (hS1 : Strs w w.heap.size A1 xs) (hS2 : Strs w w.heap.size A2 ys) :
    Calls Tryd.prog 26 #[.slice A1 n1 c1, .slice A2 n2 c2] w fun e w' => e = .returned (.bool (decide (xs = ys))) ∧ Below w.heap.size w w' := by
  have S1 := Lib.hid hS1; have S2 := Lib.hid hS2; have L1 := Lib.hid h1; have L2 := Lib.hid h2
  clear hS1 hS2 h1 h2
  by_cases hne : n1 = n2
  case neg =>
    have hd : decide (xs = ys) = false := decide_eq_false (fun e => hne (by rw [L1.out, L2.out, e]))
    have i1 : ((n1 : Int) == (n2 : Int)) = false := by rw [beq_eq_false_iff_ne]; omega
    rw [hd]
    go_enter Tryd.func26, Tryd.ntmps26
    go_wp2
    go_ret
    exact ⟨rfl, Below.refl _ _⟩
  subst hne
  go_enter Tryd.func26, Tryd.ntmps26
  go_wp2
  go_loopw [5] (fun p wr => ∃ j : Nat, p = .int .i64 j ∧ j ≤ n1 ∧ xs.take j = ys.take j ∧ Below w.heap.size w wr) (fun p _ => n1 - (intOf p).toNat)
  case atStart => exact ⟨0, rfl, by omega, by simp, Below.refl _ _⟩
  case round =>
    obtain ⟨j, rfl, hj, heq, hbr⟩ := hrel
    by_cases g1 : j < n1
    · have k1 : j < xs.length := by rw [← L1.out]; exact g1
      have k2 : j < ys.length := by rw [← L2.out]; exact g1
      obtain ⟨b1, o1, rfl, B1⟩ := strs_some S1.out (by intro e; rw [e] at k1; simp at k1)
      obtain ⟨b2, o2, rfl, B2⟩ := strs_some S2.out (by intro e; rw [e] at k2; simp at k2)
      have c1j := (hbr.cell (p := ⟨b1, o1 + j, none⟩) B1).trans (strs_cell S1.out j _ (get_at k1))
      have c2j := (hbr.cell (p := ⟨b2, o2 + j, none⟩) B2).trans (strs_cell S2.out j _ (get_at k2))
      have hx1 := List.take_succ_eq_append_getElem k1
      have hx2 := List.take_succ_eq_append_getElem k2
      have gx := get_at k1
      have gy := get_at k2
      obtain ⟨X, hX⟩ : ∃ X, X = xs[j] := ⟨_, rfl⟩
      obtain ⟨Y, hY⟩ : ∃ Y, Y = ys[j] := ⟨_, rfl⟩
      rw [← hX] at c1j hx1 gx
      rw [← hY] at c2j hx2 gy
      have j0 : (0 : Int) ≤ (j : Int) := by omega
      have j1 : (j : Int) < (n1 : Int) := by omega
      by_cases hxy : X = Y
      · have e1 := str_eq hxy
        have hnx : xs.take (j + 1) = ys.take (j + 1) := by rw [hx1, hx2, heq, hxy]
        have NX := Lib.hid hnx
        clear hxy hnx hx1 hx2 gx gy hX hY heq k1 k2
        go_wp2
        go_quiet (fail)
        go_wp2
        exact ⟨⟨j + 1, by go_num, by omega, NX.out, below_drawnN hbr _⟩, by simp only [intOf]; omega⟩
      · have e1 := str_ne hxy
        have hd : decide (xs = ys) = false := decide_eq_false (fun e => hxy (by rw [e, gy] at gx; injection gx with h; exact h.symm))
        have HD := Lib.hid hd
        clear hxy hx1 hx2 gx gy hX hY heq k1 k2 hd
        go_wp2
        go_quiet (fail)
        go_wp2
        go_ret
        exact ⟨by rw [HD.out]; rfl, below_drawnN hbr _⟩
    · have hd : decide (xs = ys) = true := decide_eq_true (by
        have h1 := L1.out; have h2 := L2.out
        rwa [List.take_of_length_le (by omega), List.take_of_length_le (by omega)] at heq)
      have HD := Lib.hid hd
      clear hd heq
      go_wp2
      go_ret
      exact ⟨by rw [HD.out]; rfl, hbr⟩
end Go.Proofs.YtjcamhekhfokhaaDoor
