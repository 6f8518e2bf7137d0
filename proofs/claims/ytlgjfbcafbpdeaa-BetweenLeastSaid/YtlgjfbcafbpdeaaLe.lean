/- BetweenLeast: its walk. -/
import Derived.Test.YtlgjfbcafbpdeaaSol
import Derived.Test.YtlgjfbcafbpdeaaMl
namespace Go.Proofs.Ytlgjfbcafbpdeaa
open Go.RowKit

theorem bnez {n : Int} : (n != n) = false := by simp
set_option maxRecDepth 100000 in
set_option maxHeartbeats 8000000 in
theorem least_no (N : Int) (H : List Int) (HA : Option Addr) (hc : Nat) (BL : List Bn) (BA : Option Addr) (bc : Nat) (M which : Int) (hN : In64 N) (hH : ∀ x ∈ H, In64 x) (hHl : H.length ≤ 9223372036854775807)
    (hB : ∀ r ∈ BL, In64 r.1 ∧ In64 r.2.1 ∧ In64 r.2.2) (hBl : BL.length ≤ 9223372036854775807) (hM : In64 M) (hfi : fineB ((hidN N : Nat) : Int) (madeL N H BL M) = false) (w : World) (hr : Nums w w.heap.size HA H) (hb : Rds w w.heap.size BA BL) :
    Calls Try.prog 4 #[nmV N HA H.length hc BA BL.length bc M, .int .i64 which] w fun e w' => e = .returned (.bool true) ∧ Below w.heap.size w w' := by
  have hsan := sane_any
  have hmad := fun W (b : Below w.heap.size w W) => made_any N H HA hc BL BA bc M hN hH hHl hB hBl hM W (hr.deep b) (hb.deep b)
  have hmis := fun W => misses_any N HA H.length hc BA BL.length bc M hM W
  have hms : missB M = true := by
    cases e : missB M with
    | true => rfl
    | false => rw [made_fineB e] at hfi; cases hfi
  rw [hms] at hmis
  have hK := madeL_len N H BL M
  generalize hidN N = n at *
  generalize madeL N H BL M = bs at *
  have hcl := fun A c W (r : Rds W W.heap.size A bs) => close_no n bs A c hfi (by omega) W r
  have hsol := fun A c W (r : Rds W W.heap.size A bs) => solve_no n bs A c hfi (by omega) W r
  generalize bs.length = K at *
  have HSAN := Lib.hid hsan; have HMAD := Lib.hid hmad; have HMIS := Lib.hid hmis; have HCL := Lib.hid hcl; have HSOL := Lib.hid hsol
  clear hsan hmad hmis hcl hsol hfi hms hB hBl hM hN hH hHl hr hb
  generalize BL.length = L at *
  generalize H.length = HL at *
  unfold nmV btw at *
  have X : Hid (Row (w.alloc (.cells #[.int .i64 N, .slice HA HL hc, .slice BA L bc, .int .i64 M] 25)) w.heap.size 25 #[.int .i64 N, .slice HA HL hc, .slice BA L bc, .int .i64 M]) := Lib.hid (Row.made _ _ _)
  have BW : Hid (Below w.heap.size w (w.alloc (.cells #[.int .i64 N, .slice HA HL hc, .slice BA L bc, .int .i64 M] 25))) := Lib.hid (below_alloc _ _)
  go_enter Try.func4, Try.ntmps4
  go_wp2_with (first
    | (go_at_call 10; (with_reducible refine (HSAN.out _).mono ?_); rintro e w1 ⟨rfl, b⟩; ((try replace X := Lib.hid (X.out.step (below_step (by (repeat (first | exact Below.refl _ _ | refine keep_alloc ?_ _ | refine Below.drew ?_))) b))); (try replace Y := Lib.hid (Y.out.step (below_step (by (repeat (first | exact Below.refl _ _ | refine keep_alloc ?_ _ | refine Below.drew ?_))) b))); (try replace E := Lib.hid (E.out.deep (below_step (by (repeat (first | exact Below.refl _ _ | refine keep_alloc ?_ _ | refine Below.drew ?_))) b))); (try replace Hh := Lib.hid (Hh.out.deep (below_step (by (repeat (first | exact Below.refl _ _ | refine keep_alloc ?_ _ | refine Below.drew ?_))) b))); (try replace S := Lib.hid (S.out.deep (below_step (by (repeat (first | exact Below.refl _ _ | refine keep_alloc ?_ _ | refine Below.drew ?_))) b))); (try replace D := Lib.hid (D.out.step (below_step (by (repeat (first | exact Below.refl _ _ | refine keep_alloc ?_ _ | refine Below.drew ?_))) b))); (try replace BW := Lib.hid (below_step BW.out (below_step (by (repeat (first | exact Below.refl _ _ | refine keep_alloc ?_ _ | refine Below.drew ?_))) b))); clear b); ((try clear x0); (try clear x1); (try clear x2); (try clear x3); (try clear i1); have x0 := X.out.at (i := 0) rfl; have x1 := X.out.at (i := 1) rfl; have x2 := X.out.at (i := 2) rfl; have x3 := X.out.at (i := 3) rfl; have i1 := X.out.inside))
    | (go_at_call 12; (with_reducible refine (HMAD.out _ BW.out).mono ?_); rintro e w3 ⟨A, cap, rfl, r, b⟩; ((try replace X := Lib.hid (X.out.step (below_step (by (repeat (first | exact Below.refl _ _ | refine keep_alloc ?_ _ | refine Below.drew ?_))) b))); (try replace Y := Lib.hid (Y.out.step (below_step (by (repeat (first | exact Below.refl _ _ | refine keep_alloc ?_ _ | refine Below.drew ?_))) b))); (try replace E := Lib.hid (E.out.deep (below_step (by (repeat (first | exact Below.refl _ _ | refine keep_alloc ?_ _ | refine Below.drew ?_))) b))); (try replace Hh := Lib.hid (Hh.out.deep (below_step (by (repeat (first | exact Below.refl _ _ | refine keep_alloc ?_ _ | refine Below.drew ?_))) b))); (try replace S := Lib.hid (S.out.deep (below_step (by (repeat (first | exact Below.refl _ _ | refine keep_alloc ?_ _ | refine Below.drew ?_))) b))); (try replace D := Lib.hid (D.out.step (below_step (by (repeat (first | exact Below.refl _ _ | refine keep_alloc ?_ _ | refine Below.drew ?_))) b))); (try replace BW := Lib.hid (below_step BW.out (below_step (by (repeat (first | exact Below.refl _ _ | refine keep_alloc ?_ _ | refine Below.drew ?_))) b))); clear b); have E := Lib.hid r; clear r; ((try clear x0); (try clear x1); (try clear x2); (try clear x3); (try clear i1); have x0 := X.out.at (i := 0) rfl; have x1 := X.out.at (i := 1) rfl; have x2 := X.out.at (i := 2) rfl; have x3 := X.out.at (i := 3) rfl; have i1 := X.out.inside); have Y := Lib.hid (Row.made w3 28 #[.int .i64 (n : Int), .slice A K cap]); have E2 := Lib.hid (E.out.deep (below_alloc w3 (.cells #[.int .i64 (n : Int), .slice A K cap] 28))))
    | (go_at_call 16; (with_reducible refine (HCL.out _ _ _ E2.out).mono ?_); rintro e w4 ⟨rfl, b⟩; have yy := Y.out.step b; clear Y E2; ((try replace X := Lib.hid (X.out.step (below_step (by (repeat (first | exact Below.refl _ _ | refine keep_alloc ?_ _ | refine Below.drew ?_))) b))); (try replace Y := Lib.hid (Y.out.step (below_step (by (repeat (first | exact Below.refl _ _ | refine keep_alloc ?_ _ | refine Below.drew ?_))) b))); (try replace E := Lib.hid (E.out.deep (below_step (by (repeat (first | exact Below.refl _ _ | refine keep_alloc ?_ _ | refine Below.drew ?_))) b))); (try replace Hh := Lib.hid (Hh.out.deep (below_step (by (repeat (first | exact Below.refl _ _ | refine keep_alloc ?_ _ | refine Below.drew ?_))) b))); (try replace S := Lib.hid (S.out.deep (below_step (by (repeat (first | exact Below.refl _ _ | refine keep_alloc ?_ _ | refine Below.drew ?_))) b))); (try replace D := Lib.hid (D.out.step (below_step (by (repeat (first | exact Below.refl _ _ | refine keep_alloc ?_ _ | refine Below.drew ?_))) b))); (try replace BW := Lib.hid (below_step BW.out (below_step (by (repeat (first | exact Below.refl _ _ | refine keep_alloc ?_ _ | refine Below.drew ?_))) b))); clear b); have Y := Lib.hid yy; clear yy; ((try clear x0); (try clear x1); (try clear x2); (try clear x3); (try clear i1); have x0 := X.out.at (i := 0) rfl; have x1 := X.out.at (i := 1) rfl; have x2 := X.out.at (i := 2) rfl; have x3 := X.out.at (i := 3) rfl; have i1 := X.out.inside); ((try clear y0); (try clear y1); (try clear i2); have y0 := Y.out.two.1; have y1 := Y.out.two.2.1; have i2 := Y.out.inside))
    | (go_at_call 18; (with_reducible refine (HSOL.out _ _ _ E.out).mono ?_); rintro e w5 ⟨rfl, b⟩; ((try replace X := Lib.hid (X.out.step (below_step (by (repeat (first | exact Below.refl _ _ | refine keep_alloc ?_ _ | refine Below.drew ?_))) b))); (try replace Y := Lib.hid (Y.out.step (below_step (by (repeat (first | exact Below.refl _ _ | refine keep_alloc ?_ _ | refine Below.drew ?_))) b))); (try replace E := Lib.hid (E.out.deep (below_step (by (repeat (first | exact Below.refl _ _ | refine keep_alloc ?_ _ | refine Below.drew ?_))) b))); (try replace Hh := Lib.hid (Hh.out.deep (below_step (by (repeat (first | exact Below.refl _ _ | refine keep_alloc ?_ _ | refine Below.drew ?_))) b))); (try replace S := Lib.hid (S.out.deep (below_step (by (repeat (first | exact Below.refl _ _ | refine keep_alloc ?_ _ | refine Below.drew ?_))) b))); (try replace D := Lib.hid (D.out.step (below_step (by (repeat (first | exact Below.refl _ _ | refine keep_alloc ?_ _ | refine Below.drew ?_))) b))); (try replace BW := Lib.hid (below_step BW.out (below_step (by (repeat (first | exact Below.refl _ _ | refine keep_alloc ?_ _ | refine Below.drew ?_))) b))); clear b); ((try clear x0); (try clear x1); (try clear x2); (try clear x3); (try clear i1); have x0 := X.out.at (i := 0) rfl; have x1 := X.out.at (i := 1) rfl; have x2 := X.out.at (i := 2) rfl; have x3 := X.out.at (i := 3) rfl; have i1 := X.out.inside); ((try clear y0); (try clear y1); (try clear i2); have y0 := Y.out.two.1; have y1 := Y.out.two.2.1; have i2 := Y.out.inside))
    | (go_at_call 35; (with_reducible refine (HMIS.out _).mono ?_); rintro e w6 ⟨rfl, b⟩; ((try replace X := Lib.hid (X.out.step (below_step (by (repeat (first | exact Below.refl _ _ | refine keep_alloc ?_ _ | refine Below.drew ?_))) b))); (try replace Y := Lib.hid (Y.out.step (below_step (by (repeat (first | exact Below.refl _ _ | refine keep_alloc ?_ _ | refine Below.drew ?_))) b))); (try replace E := Lib.hid (E.out.deep (below_step (by (repeat (first | exact Below.refl _ _ | refine keep_alloc ?_ _ | refine Below.drew ?_))) b))); (try replace Hh := Lib.hid (Hh.out.deep (below_step (by (repeat (first | exact Below.refl _ _ | refine keep_alloc ?_ _ | refine Below.drew ?_))) b))); (try replace S := Lib.hid (S.out.deep (below_step (by (repeat (first | exact Below.refl _ _ | refine keep_alloc ?_ _ | refine Below.drew ?_))) b))); (try replace D := Lib.hid (D.out.step (below_step (by (repeat (first | exact Below.refl _ _ | refine keep_alloc ?_ _ | refine Below.drew ?_))) b))); (try replace BW := Lib.hid (below_step BW.out (below_step (by (repeat (first | exact Below.refl _ _ | refine keep_alloc ?_ _ | refine Below.drew ?_))) b))); clear b); ((try clear x0); (try clear x1); (try clear x2); (try clear x3); (try clear i1); have x0 := X.out.at (i := 0) rfl; have x1 := X.out.at (i := 1) rfl; have x2 := X.out.at (i := 2) rfl; have x3 := X.out.at (i := 3) rfl; have i1 := X.out.inside); ((try clear y0); (try clear y1); (try clear i2); have y0 := Y.out.two.1; have y1 := Y.out.two.2.1; have i2 := Y.out.inside)))
  go_ret
  exact ⟨rfl, BW.out⟩

set_option maxRecDepth 100000 in
set_option maxHeartbeats 8000000 in
theorem least_yes (N : Int) (H : List Int) (HA : Option Addr) (hc : Nat) (BL : List Bn) (BA : Option Addr) (bc : Nat) (M which : Int) (hN : In64 N) (hH : ∀ x ∈ H, In64 x) (hHl : H.length ≤ 9223372036854775807)
    (hB : ∀ r ∈ BL, In64 r.1 ∧ In64 r.2.1 ∧ In64 r.2.2) (hBl : BL.length ≤ 9223372036854775807) (hM : In64 M) (hw : In64 which) (hfi : fineB ((hidN N : Nat) : Int) (madeL N H BL M) = true) (w : World) (hr : Nums w w.heap.size HA H) (hb : Rds w w.heap.size BA BL) :
    Calls Try.prog 4 #[nmV N HA H.length hc BA BL.length bc M, .int .i64 which] w fun e w' => e = .returned (.bool true) ∧ Below w.heap.size w w' := by
  have hsan := sane_any
  have hmad := fun W (b : Below w.heap.size w W) => made_any N H HA hc BL BA bc M hN hH hHl hB hBl hM W (hr.deep b) (hb.deep b)
  have hhid := fun W (b : Below w.heap.size w W) => hidden_any N H HA hc BA BL.length bc M hN hH hHl W (hr.deep b)
  have hbs := made_okb N H BL M
  have hva := made_valid N H BL M
  have h268 : ∀ c ∈ madeL N H BL M, -268 ≤ c.2.2 ∧ c.2.2 ≤ 268 := fun c hc => by have := madeL_mem N H BL M c hc; omega
  have hbd := hidL_all N H
  have hlen := hidL_len N H
  obtain ⟨n1, n8⟩ := hidN_bd N
  have hK := madeL_len N H BL M
  generalize hidN N = n at *
  generalize hidL N H = hh at *
  generalize madeL N H BL M = bs at *
  have hfn : Fine bs := by
    rw [fineB_nat] at hfi
    simp only [Bool.and_eq_true, Bool.not_eq_true'] at hfi
    exact (badB_false (by omega) hbs).1 hfi.2
  have ppk := fun W => pick_any which n hw.1 hw.2 (by omega) (by omega) W
  have rpk := pk_range (c := which) (n := (n : Int)) (by omega)
  generalize pk which n = κ at *
  obtain ⟨κ, rfl⟩ := Int.eq_ofNat_of_zero_le rpk.1
  have hcl := fun A c W (r : Rds W W.heap.size A bs) => close_yes n bs A c hfi (by omega) W r
  have hsol := fun A c W (r : Rds W W.heap.size A bs) => solve_yes n bs A c hfi (by omega) W r
  obtain ⟨K, hK'⟩ : ∃ K, K = bs.length := ⟨_, rfl⟩
  have hall : ∀ (A : Option Addr) (c : Nat) (XA : Option Addr) (xc : Nat) (l : List Int) (W : World), l.length = n → Rds W W.heap.size A bs → Nums W W.heap.size XA l →
      Calls Try.prog 27 #[.agg #[.int .i64 (n : Int), .slice A K c], .slice XA n xc] W fun e w' => e = .returned (.bool (allowedB (n : Int) bs l)) ∧ Below W.heap.size W w' := fun A c XA xc l W hl r q => by
    have := allowed_any n bs A c l XA xc (by omega) (by omega) W r q
    rw [hl, ← hK'] at this
    exact this
  have hT := thr_allowed hbs (by omega) hfn h268 hva (κ : Int)
  have hallT := fun (A : Option Addr) (c : Nat) (XA : Option Addr) (xc : Nat) (W : World) (r : Rds W W.heap.size A bs) (q : Nums W W.heap.size XA ((List.range n).map fun i : Nat => thr n bs (κ : Int) i)) => hall A c XA xc _ W (by simp) r q
  rw [hT] at hallT
  have hT0 := thr_self (n := n) hfn (κ : Int)
  have hatb := fun (l : List Int) (i j : Nat) (a b : Int) (h1 : allowedB (n : Int) bs l = true) (h2 : l[i]? = some a) (h3 : l[j]? = some b) => allowed_tb h1 h2 h3
  have hlall : ∀ (l : List Int), allowedB (n : Int) bs l = true → ∀ x ∈ l, -1000000000000 ≤ x ∧ x ≤ 1000000000000 := fun l hl x hx => by
    unfold allowedB at hl
    simp only [Bool.and_eq_true, List.all_eq_true] at hl
    exact inB_iff.1 (hl.1.2 x hx)
  have s1 := fun v => sol_268 (n := n) h268 (by omega) v
  have s2 := sol_le (bs := bs) (n := n)
  rw [← hK'] at hmad hsol hcl hK
  have HSAN := Lib.hid hsan; have HMAD := Lib.hid hmad; have HHID := Lib.hid hhid; have HCL := Lib.hid hcl; have HSOL := Lib.hid hsol; have HALL := Lib.hid hall; have HALT := Lib.hid hallT; have HT := Lib.hid hT; have HT0 := Lib.hid hT0; have HATB := Lib.hid hatb; have HLALL := Lib.hid hlall; have HBD := Lib.hid hbd; have HLEN := Lib.hid hlen
  have S1 := Lib.hid s1; have S2 := Lib.hid s2; have PPK := Lib.hid ppk
  clear hsan hmad hhid hcl hsol hall hallT hT hT0 hatb hlall hbd hlen s1 s2 ppk hbs hfi hfn hva h268 hB hBl hM hw hN hH hHl hr hb hK'
  generalize BL.length = L at *
  generalize H.length = HL at *
  obtain ⟨i0, hi, hz0, hz1, hz2⟩ := info_parts hid_info
  unfold nmV btw tblV at *
  have X : Hid (Row (w.alloc (.cells #[.int .i64 N, .slice HA HL hc, .slice BA L bc, .int .i64 M] 25)) w.heap.size 25 #[.int .i64 N, .slice HA HL hc, .slice BA L bc, .int .i64 M]) := Lib.hid (Row.made _ _ _)
  have BW : Hid (Below w.heap.size w (w.alloc (.cells #[.int .i64 N, .slice HA HL hc, .slice BA L bc, .int .i64 M] 25))) := Lib.hid (below_alloc _ _)
  obtain ⟨κ0, κn⟩ := rpk
  have κn' : κ < n := by omega
  have nb : ((n : Int) != (n : Int)) = false := bnez
  go_enter Try.func4, Try.ntmps4
  go_wp2_with (first
    | (go_at_call 10; (with_reducible refine (HSAN.out _).mono ?_); rintro e w1 ⟨rfl, b⟩; ((try replace X := Lib.hid (X.out.step (below_step (by (repeat (first | exact Below.refl _ _ | refine keep_alloc ?_ _ | refine Below.drew ?_))) b))); (try replace Y := Lib.hid (Y.out.step (below_step (by (repeat (first | exact Below.refl _ _ | refine keep_alloc ?_ _ | refine Below.drew ?_))) b))); (try replace E := Lib.hid (E.out.deep (below_step (by (repeat (first | exact Below.refl _ _ | refine keep_alloc ?_ _ | refine Below.drew ?_))) b))); (try replace Hh := Lib.hid (Hh.out.deep (below_step (by (repeat (first | exact Below.refl _ _ | refine keep_alloc ?_ _ | refine Below.drew ?_))) b))); (try replace S := Lib.hid (S.out.deep (below_step (by (repeat (first | exact Below.refl _ _ | refine keep_alloc ?_ _ | refine Below.drew ?_))) b))); (try replace D := Lib.hid (D.out.step (below_step (by (repeat (first | exact Below.refl _ _ | refine keep_alloc ?_ _ | refine Below.drew ?_))) b))); (try replace BW := Lib.hid (below_step BW.out (below_step (by (repeat (first | exact Below.refl _ _ | refine keep_alloc ?_ _ | refine Below.drew ?_))) b))); clear b); ((try clear x0); (try clear x1); (try clear x2); (try clear x3); (try clear i1); have x0 := X.out.at (i := 0) rfl; have x1 := X.out.at (i := 1) rfl; have x2 := X.out.at (i := 2) rfl; have x3 := X.out.at (i := 3) rfl; have i1 := X.out.inside))
    | (go_at_call 12; (with_reducible refine (HMAD.out _ BW.out).mono ?_); rintro e w3 ⟨A, cap, rfl, r, b⟩; ((try replace X := Lib.hid (X.out.step (below_step (by (repeat (first | exact Below.refl _ _ | refine keep_alloc ?_ _ | refine Below.drew ?_))) b))); (try replace Y := Lib.hid (Y.out.step (below_step (by (repeat (first | exact Below.refl _ _ | refine keep_alloc ?_ _ | refine Below.drew ?_))) b))); (try replace E := Lib.hid (E.out.deep (below_step (by (repeat (first | exact Below.refl _ _ | refine keep_alloc ?_ _ | refine Below.drew ?_))) b))); (try replace Hh := Lib.hid (Hh.out.deep (below_step (by (repeat (first | exact Below.refl _ _ | refine keep_alloc ?_ _ | refine Below.drew ?_))) b))); (try replace S := Lib.hid (S.out.deep (below_step (by (repeat (first | exact Below.refl _ _ | refine keep_alloc ?_ _ | refine Below.drew ?_))) b))); (try replace D := Lib.hid (D.out.step (below_step (by (repeat (first | exact Below.refl _ _ | refine keep_alloc ?_ _ | refine Below.drew ?_))) b))); (try replace BW := Lib.hid (below_step BW.out (below_step (by (repeat (first | exact Below.refl _ _ | refine keep_alloc ?_ _ | refine Below.drew ?_))) b))); clear b); have E := Lib.hid r; clear r; ((try clear x0); (try clear x1); (try clear x2); (try clear x3); (try clear i1); have x0 := X.out.at (i := 0) rfl; have x1 := X.out.at (i := 1) rfl; have x2 := X.out.at (i := 2) rfl; have x3 := X.out.at (i := 3) rfl; have i1 := X.out.inside); have Y := Lib.hid (Row.made w3 28 #[.int .i64 (n : Int), .slice A K cap]); have E2 := Lib.hid (E.out.deep (below_alloc w3 (.cells #[.int .i64 (n : Int), .slice A K cap] 28))))
    | (go_at_call 16; (with_reducible refine (HCL.out _ _ _ E2.out).mono ?_); rintro e w4 ⟨s, rfl, r, b⟩; have yy := Y.out.step b; clear Y E2; ((try replace X := Lib.hid (X.out.step (below_step (by (repeat (first | exact Below.refl _ _ | refine keep_alloc ?_ _ | refine Below.drew ?_))) b))); (try replace Y := Lib.hid (Y.out.step (below_step (by (repeat (first | exact Below.refl _ _ | refine keep_alloc ?_ _ | refine Below.drew ?_))) b))); (try replace E := Lib.hid (E.out.deep (below_step (by (repeat (first | exact Below.refl _ _ | refine keep_alloc ?_ _ | refine Below.drew ?_))) b))); (try replace Hh := Lib.hid (Hh.out.deep (below_step (by (repeat (first | exact Below.refl _ _ | refine keep_alloc ?_ _ | refine Below.drew ?_))) b))); (try replace S := Lib.hid (S.out.deep (below_step (by (repeat (first | exact Below.refl _ _ | refine keep_alloc ?_ _ | refine Below.drew ?_))) b))); (try replace D := Lib.hid (D.out.step (below_step (by (repeat (first | exact Below.refl _ _ | refine keep_alloc ?_ _ | refine Below.drew ?_))) b))); (try replace BW := Lib.hid (below_step BW.out (below_step (by (repeat (first | exact Below.refl _ _ | refine keep_alloc ?_ _ | refine Below.drew ?_))) b))); clear b); have Y := Lib.hid yy; have D := Lib.hid r; clear r yy; ((try clear x0); (try clear x1); (try clear x2); (try clear x3); (try clear i1); have x0 := X.out.at (i := 0) rfl; have x1 := X.out.at (i := 1) rfl; have x2 := X.out.at (i := 2) rfl; have x3 := X.out.at (i := 3) rfl; have i1 := X.out.inside); ((try clear y0); (try clear y1); (try clear i2); have y0 := Y.out.two.1; have y1 := Y.out.two.2.1; have i2 := Y.out.inside))
    | (go_at_call 18; (with_reducible refine (HSOL.out _ _ _ E.out).mono ?_); rintro e w5 ⟨sg, rfl, r, b⟩; ((try replace X := Lib.hid (X.out.step (below_step (by (repeat (first | exact Below.refl _ _ | refine keep_alloc ?_ _ | refine Below.drew ?_))) b))); (try replace Y := Lib.hid (Y.out.step (below_step (by (repeat (first | exact Below.refl _ _ | refine keep_alloc ?_ _ | refine Below.drew ?_))) b))); (try replace E := Lib.hid (E.out.deep (below_step (by (repeat (first | exact Below.refl _ _ | refine keep_alloc ?_ _ | refine Below.drew ?_))) b))); (try replace Hh := Lib.hid (Hh.out.deep (below_step (by (repeat (first | exact Below.refl _ _ | refine keep_alloc ?_ _ | refine Below.drew ?_))) b))); (try replace S := Lib.hid (S.out.deep (below_step (by (repeat (first | exact Below.refl _ _ | refine keep_alloc ?_ _ | refine Below.drew ?_))) b))); (try replace D := Lib.hid (D.out.step (below_step (by (repeat (first | exact Below.refl _ _ | refine keep_alloc ?_ _ | refine Below.drew ?_))) b))); (try replace BW := Lib.hid (below_step BW.out (below_step (by (repeat (first | exact Below.refl _ _ | refine keep_alloc ?_ _ | refine Below.drew ?_))) b))); clear b); have S := Lib.hid (row_nums r); clear r; ((try clear x0); (try clear x1); (try clear x2); (try clear x3); (try clear i1); have x0 := X.out.at (i := 0) rfl; have x1 := X.out.at (i := 1) rfl; have x2 := X.out.at (i := 2) rfl; have x3 := X.out.at (i := 3) rfl; have i1 := X.out.inside); ((try clear y0); (try clear y1); (try clear i2); have y0 := Y.out.two.1; have y1 := Y.out.two.2.1; have i2 := Y.out.inside))
    | (go_at_call 13; (with_reducible refine (PPK.out _).mono ?_); rintro e wx ⟨rfl, hwx⟩; have hwx := hwx.symm; subst hwx))
  go_loopg [11, 12] n (fun kx s11 s12 wr => ∃ k : Nat, s12 = .int .i64 (k : Int) ∧ k + kx = n ∧ wr.ownsRow w5.heap.size 3 1 s11 k (intV ((List.range k).map fun i : Nat => thr n bs (κ : Int) i)) ∧ Below w5.heap.size w5 wr)
  case atStart => exact ⟨0, rfl, by omega, ⟨rfl, .inl ⟨rfl, rfl⟩⟩, Below.refl _ _⟩
  case round =>
    clear x0 x1 x2 x3 y0 y1 i1 i2
    obtain ⟨k, rfl, hk, hO, hb⟩ := hrel
    by_cases hlt : k < n
    · have kn : (k : Int) < (n : Int) := by omega
      obtain ⟨v, hv⟩ : ∃ v, v = thr n bs (κ : Int) (k : Int) := ⟨_, rfl⟩
      have hs1 : ((List.range (k + 1)).map fun i : Nat => thr n bs (κ : Int) i) = ((List.range k).map fun i : Nat => thr n bs (κ : Int) i) ++ [v] := by rw [List.range_succ, List.map_append, hv]; rfl
      have q1 : k + 1 ≤ maxLen := by unfold maxLen; omega
      have q2 : (k + 1) * 8 ≤ 140737488355328 := by omega
      have c0 := (Y.out.step hb).two.1
      have c1 := (D.out.step hb).cell hlt
      have OO := Lib.hid hO; have BB := Lib.hid hb; have HS1 := Lib.hid hs1; have HV := Lib.hid hv
      clear hO hb hs1 hv
      go_upto_region 15 with (fail)
      go_quiet (fail)
      obtain ⟨wz, hz⟩ : ∃ wz, wz = wr.drewN nq := ⟨_, rfl⟩
      rw [← hz]
      have bz : Below w5.heap.size w5 wz := by rw [hz]; exact below_drawnN BB.out _
      have oz : wz.ownsRow w5.heap.size 3 1 u11 k (intV ((List.range k).map fun i : Nat => thr n bs (κ : Int) i)) := by rw [hz]; exact OO.out
      have q3 : ∀ (o : Obj), w5.heap.size ≤ (wz.alloc o).heap.size := fun o => by have := bz.size; simp; omega
      have d0 := (D.out.step bz).cell κn'
      have d1 := (D.out.step bz).val κn' hlt
      have hsk : ((List.range n).map fun i : Nat => sol n bs i)[k]? = some (sol n bs (k : Int)) := by rw [List.getElem?_map, List.getElem?_range hlt]; rfl
      have d2 := nums_cell (S.out.deep bz) hsk
      have l1 := S1.out (k : Int)
      have l2 := S2.out (k : Int)
      have OZ := Lib.hid oz; have BZ := Lib.hid bz; have Q3 := Lib.hid q3
      clear hz oz bz q3 c0 c1 hsk
      have fin : ∀ (v' : Value) (w6 : World), w6.ownsRow w5.heap.size 3 1 v' (k + 1) (intV ((List.range k).map fun i : Nat => thr n bs (κ : Int) i) ++ [.int .i64 v]) → (wz.alloc (.cells #[.int .i64 v] 3)).grownBy w6 u11.ownBlock →
          w6.ownsRow w5.heap.size 3 1 v' (k + 1) (intV ((List.range (k + 1)).map fun i : Nat => thr n bs (κ : Int) i)) ∧ Below w5.heap.size w5 w6 := fun v' w6 ho hg =>
        ⟨by rw [HS1.out, intV_app]; exact ho, (BZ.out.alloc BZ.out.size _).grown hg (Q3.out _) (fun j hj => (OZ.out.lt j hj).1)⟩
      have FIN := Lib.hid fin
      clear fin
      by_cases hfar : tb bs n (κ : Int) (k : Int) = farI
      · have hvv : v = 1000000000 + sol n bs (k : Int) := by rw [HV.out]; unfold thr; rw [if_pos hfar]
        rw [hfar] at d1
        unfold farI at d1
        clear HV hfar
        generalize sol n bs (k : Int) = σ at *
        subst hvv
        have wv : IntKind.i64.wrap (1000000000 + σ) = 1000000000 + σ := IntWalk.i64_in _ (by omega)
        have wv2 : wrap64 (1000000000 + σ) = 1000000000 + σ := by unfold wrap64; omega
        go_wp2_with (at_builtin; refine wpList_append_own _ rfl _ _ 22 rfl w5.heap.size 3 i0 (.int .i64 0) 1 8 Try.underlying22 hi hz0 hz1 hz2 rfl (by decide) _ _ _ rfl (OZ.out.alloc _) ⟨wz.heap.size, 0, none⟩ 1 1 [.int .i64 (1000000000 + σ)] rfl rfl (cell_one_new _ _ _) (by simp [Value.oneCell']) q1 q2 (Q3.out _) ?_; intro v' w6 own6 hg6 hn6; obtain ⟨g', cap', rfl⟩ := ownsRow_succ own6; have F6 := Lib.hid (FIN.out _ _ own6 hg6); clear own6 hg6 hn6)
        go_roundg (n - (k + 1))
        case measure => omega
        case rel => exact ⟨k + 1, by go_num, by omega, F6.out.1, F6.out.2⟩
      · have hvv : v = tb bs n (κ : Int) (k : Int) := by rw [HV.out]; unfold thr; rw [if_neg hfar]
        rw [← hvv] at d1 hfar
        have hne : (v == 1152921504606846976) = false := by unfold farI at hfar; simpa using hfar
        clear hfar hvv HV d2
        go_wp2_with (at_builtin; refine wpList_append_own _ rfl _ _ 22 rfl w5.heap.size 3 i0 (.int .i64 0) 1 8 Try.underlying22 hi hz0 hz1 hz2 rfl (by decide) _ _ _ rfl (OZ.out.alloc _) ⟨wz.heap.size, 0, none⟩ 1 1 [.int .i64 (v)] rfl rfl (cell_one_new _ _ _) (by simp [Value.oneCell']) q1 q2 (Q3.out _) ?_; intro v' w6 own6 hg6 hn6; obtain ⟨g', cap', rfl⟩ := ownsRow_succ own6; have F6 := Lib.hid (FIN.out _ _ own6 hg6); clear own6 hg6 hn6)
        go_roundg (n - (k + 1))
        case measure => omega
        case rel => exact ⟨k + 1, by go_num, by omega, F6.out.1, F6.out.2⟩
    · obtain rfl : k = n := by omega
      obtain ⟨g, gcap, rfl⟩ : ∃ g cap, u11 = .slice (some ⟨g, 0, none⟩) k cap := by
        rcases hO.2 with ⟨_, e⟩ | ⟨g, cap, _, e, _⟩
        · omega
        · exact ⟨g, cap, e⟩
      have T := Lib.hid (own_intNums hO)
      have kk : ¬ (k : Int) < (k : Int) := by omega
      have b := hb
      clear hO hb hlt hk
      ((try replace X := Lib.hid (X.out.step (below_step (by (repeat (first | exact Below.refl _ _ | refine keep_alloc ?_ _ | refine Below.drew ?_))) b))); (try replace Y := Lib.hid (Y.out.step (below_step (by (repeat (first | exact Below.refl _ _ | refine keep_alloc ?_ _ | refine Below.drew ?_))) b))); (try replace E := Lib.hid (E.out.deep (below_step (by (repeat (first | exact Below.refl _ _ | refine keep_alloc ?_ _ | refine Below.drew ?_))) b))); (try replace Hh := Lib.hid (Hh.out.deep (below_step (by (repeat (first | exact Below.refl _ _ | refine keep_alloc ?_ _ | refine Below.drew ?_))) b))); (try replace S := Lib.hid (S.out.deep (below_step (by (repeat (first | exact Below.refl _ _ | refine keep_alloc ?_ _ | refine Below.drew ?_))) b))); (try replace D := Lib.hid (D.out.step (below_step (by (repeat (first | exact Below.refl _ _ | refine keep_alloc ?_ _ | refine Below.drew ?_))) b))); (try replace BW := Lib.hid (below_step BW.out (below_step (by (repeat (first | exact Below.refl _ _ | refine keep_alloc ?_ _ | refine Below.drew ?_))) b))); clear b)
      ((try clear x0); (try clear x1); (try clear x2); (try clear x3); (try clear i1); have x0 := X.out.at (i := 0) rfl; have x1 := X.out.at (i := 1) rfl; have x2 := X.out.at (i := 2) rfl; have x3 := X.out.at (i := 3) rfl; have i1 := X.out.inside)
      ((try clear y0); (try clear y1); (try clear i2); have y0 := Y.out.two.1; have y1 := Y.out.two.2.1; have i2 := Y.out.inside)
      have hTk : ((List.range k).map fun i : Nat => thr k bs (κ : Int) i)[κ]? = some 0 := by rw [List.getElem?_map, List.getElem?_range κn', ← HT0.out]; rfl
      have t0 := nums_cell T.out hTk
      clear hTk
      go_wp2_with (first
        | (go_at_call 27; (with_reducible refine (HALT.out _ _ _ _ _ E.out T.out).mono ?_); rintro e w6 ⟨rfl, b⟩; replace T := Lib.hid (T.out.deep b); ((try replace X := Lib.hid (X.out.step (below_step (by (repeat (first | exact Below.refl _ _ | refine keep_alloc ?_ _ | refine Below.drew ?_))) b))); (try replace Y := Lib.hid (Y.out.step (below_step (by (repeat (first | exact Below.refl _ _ | refine keep_alloc ?_ _ | refine Below.drew ?_))) b))); (try replace E := Lib.hid (E.out.deep (below_step (by (repeat (first | exact Below.refl _ _ | refine keep_alloc ?_ _ | refine Below.drew ?_))) b))); (try replace Hh := Lib.hid (Hh.out.deep (below_step (by (repeat (first | exact Below.refl _ _ | refine keep_alloc ?_ _ | refine Below.drew ?_))) b))); (try replace S := Lib.hid (S.out.deep (below_step (by (repeat (first | exact Below.refl _ _ | refine keep_alloc ?_ _ | refine Below.drew ?_))) b))); (try replace D := Lib.hid (D.out.step (below_step (by (repeat (first | exact Below.refl _ _ | refine keep_alloc ?_ _ | refine Below.drew ?_))) b))); (try replace BW := Lib.hid (below_step BW.out (below_step (by (repeat (first | exact Below.refl _ _ | refine keep_alloc ?_ _ | refine Below.drew ?_))) b))); clear b); ((try clear x0); (try clear x1); (try clear x2); (try clear x3); (try clear i1); have x0 := X.out.at (i := 0) rfl; have x1 := X.out.at (i := 1) rfl; have x2 := X.out.at (i := 2) rfl; have x3 := X.out.at (i := 3) rfl; have i1 := X.out.inside); ((try clear y0); (try clear y1); (try clear i2); have y0 := Y.out.two.1; have y1 := Y.out.two.2.1; have i2 := Y.out.inside))
        | (go_at_call 26; (with_reducible refine (HHID.out _ BW.out).mono ?_); rintro e w7 ⟨gh, hcap, rfl, r, b⟩; replace T := Lib.hid (T.out.deep b); ((try replace X := Lib.hid (X.out.step (below_step (by (repeat (first | exact Below.refl _ _ | refine keep_alloc ?_ _ | refine Below.drew ?_))) b))); (try replace Y := Lib.hid (Y.out.step (below_step (by (repeat (first | exact Below.refl _ _ | refine keep_alloc ?_ _ | refine Below.drew ?_))) b))); (try replace E := Lib.hid (E.out.deep (below_step (by (repeat (first | exact Below.refl _ _ | refine keep_alloc ?_ _ | refine Below.drew ?_))) b))); (try replace Hh := Lib.hid (Hh.out.deep (below_step (by (repeat (first | exact Below.refl _ _ | refine keep_alloc ?_ _ | refine Below.drew ?_))) b))); (try replace S := Lib.hid (S.out.deep (below_step (by (repeat (first | exact Below.refl _ _ | refine keep_alloc ?_ _ | refine Below.drew ?_))) b))); (try replace D := Lib.hid (D.out.step (below_step (by (repeat (first | exact Below.refl _ _ | refine keep_alloc ?_ _ | refine Below.drew ?_))) b))); (try replace BW := Lib.hid (below_step BW.out (below_step (by (repeat (first | exact Below.refl _ _ | refine keep_alloc ?_ _ | refine Below.drew ?_))) b))); clear b); have Hh := Lib.hid (own_intNums r); clear r; ((try clear x0); (try clear x1); (try clear x2); (try clear x3); (try clear i1); have x0 := X.out.at (i := 0) rfl; have x1 := X.out.at (i := 1) rfl; have x2 := X.out.at (i := 2) rfl; have x3 := X.out.at (i := 3) rfl; have i1 := X.out.inside); ((try clear y0); (try clear y1); (try clear i2); have y0 := Y.out.two.1; have y1 := Y.out.two.2.1; have i2 := Y.out.inside)))
      have lit : ∀ q : Nat, q < 3 → ∃ (gx xc : Nat) (l : List Int), (w7.alloc (.cells #[.slice (some ⟨sg, 0, none⟩) k k, .slice (some ⟨gh, 0, none⟩) k hcap, .slice (some ⟨g, 0, none⟩) k gcap] 22)).cell? ⟨w7.heap.size, q, none⟩ = some (.slice (some ⟨gx, 0, none⟩) k xc) ∧ Nums (w7.alloc (.cells #[.slice (some ⟨sg, 0, none⟩) k k, .slice (some ⟨gh, 0, none⟩) k hcap, .slice (some ⟨g, 0, none⟩) k gcap] 22)) (w7.alloc (.cells #[.slice (some ⟨sg, 0, none⟩) k k, .slice (some ⟨gh, 0, none⟩) k hcap, .slice (some ⟨g, 0, none⟩) k gcap] 22)).heap.size (some ⟨gx, 0, none⟩) l ∧ l.length = k := by
        intro q hq
        have R := Row.made w7 22 #[.slice (some ⟨sg, 0, none⟩) k k, .slice (some ⟨gh, 0, none⟩) k hcap, .slice (some ⟨g, 0, none⟩) k gcap]
        match q, hq with
        | 0, _ => exact ⟨_, _, _, R.at rfl, S.out.deep (below_alloc _ _), by simp⟩
        | 1, _ => exact ⟨_, _, _, R.at rfl, Hh.out.deep (below_alloc _ _), HLEN.out⟩
        | 2, _ => exact ⟨_, _, _, R.at rfl, T.out.deep (below_alloc _ _), by simp⟩
      obtain ⟨w8, hw8⟩ : ∃ w8, w8 = (w7.alloc (.cells #[.slice (some ⟨sg, 0, none⟩) k k, .slice (some ⟨gh, 0, none⟩) k hcap, .slice (some ⟨g, 0, none⟩) k gcap] 22)) := ⟨_, rfl⟩
      rw [← hw8] at lit ⊢
      have b : Below w7.heap.size w7 w8 := by rw [hw8]; exact below_alloc _ _
      have i3 : w7.heap.size < w8.heap.size := by rw [hw8]; simp
      have LIT := Lib.hid lit
      clear lit hw8 x0 x1 x2 x3 y0 y1 i1 i2
      ((try replace X := Lib.hid (X.out.step (below_step (by (repeat (first | exact Below.refl _ _ | refine keep_alloc ?_ _ | refine Below.drew ?_))) b))); (try replace Y := Lib.hid (Y.out.step (below_step (by (repeat (first | exact Below.refl _ _ | refine keep_alloc ?_ _ | refine Below.drew ?_))) b))); (try replace E := Lib.hid (E.out.deep (below_step (by (repeat (first | exact Below.refl _ _ | refine keep_alloc ?_ _ | refine Below.drew ?_))) b))); (try replace Hh := Lib.hid (Hh.out.deep (below_step (by (repeat (first | exact Below.refl _ _ | refine keep_alloc ?_ _ | refine Below.drew ?_))) b))); (try replace S := Lib.hid (S.out.deep (below_step (by (repeat (first | exact Below.refl _ _ | refine keep_alloc ?_ _ | refine Below.drew ?_))) b))); (try replace D := Lib.hid (D.out.step (below_step (by (repeat (first | exact Below.refl _ _ | refine keep_alloc ?_ _ | refine Below.drew ?_))) b))); (try replace BW := Lib.hid (below_step BW.out (below_step (by (repeat (first | exact Below.refl _ _ | refine keep_alloc ?_ _ | refine Below.drew ?_))) b))); clear b)
      go_loopg [123] 3 (fun kx s123 wq => ∃ q : Nat, s123 = .int .i64 (q : Int) ∧ q + kx = 3 ∧ Below w8.heap.size w8 wq)
      case atStart => exact ⟨0, rfl, by omega, Below.refl _ _⟩
      case round =>
        obtain ⟨q, rfl, hq, hb⟩ := hrel
        by_cases hlt : q < 3
        · obtain ⟨gx, xc, l, e0, e1, e2⟩ := LIT.out q hlt
          have e0' : wr.cell? ⟨w7.heap.size, q, none⟩ = some (.slice (some ⟨gx, 0, none⟩) k xc) := (hb.cell (p := ⟨w7.heap.size, q, none⟩) i3).trans e0
          have b := hb
          have LL := Lib.hid (e1.deep hb)
          have HB8 := Lib.hid hb
          clear e0 e1 hb
          ((try replace X := Lib.hid (X.out.step (below_step (by (repeat (first | exact Below.refl _ _ | refine keep_alloc ?_ _ | refine Below.drew ?_))) b))); (try replace Y := Lib.hid (Y.out.step (below_step (by (repeat (first | exact Below.refl _ _ | refine keep_alloc ?_ _ | refine Below.drew ?_))) b))); (try replace E := Lib.hid (E.out.deep (below_step (by (repeat (first | exact Below.refl _ _ | refine keep_alloc ?_ _ | refine Below.drew ?_))) b))); (try replace Hh := Lib.hid (Hh.out.deep (below_step (by (repeat (first | exact Below.refl _ _ | refine keep_alloc ?_ _ | refine Below.drew ?_))) b))); (try replace S := Lib.hid (S.out.deep (below_step (by (repeat (first | exact Below.refl _ _ | refine keep_alloc ?_ _ | refine Below.drew ?_))) b))); (try replace D := Lib.hid (D.out.step (below_step (by (repeat (first | exact Below.refl _ _ | refine keep_alloc ?_ _ | refine Below.drew ?_))) b))); (try replace BW := Lib.hid (below_step BW.out (below_step (by (repeat (first | exact Below.refl _ _ | refine keep_alloc ?_ _ | refine Below.drew ?_))) b))); clear b)
          ((try clear x0); (try clear x1); (try clear x2); (try clear x3); (try clear i1); have x0 := X.out.at (i := 0) rfl; have x1 := X.out.at (i := 1) rfl; have x2 := X.out.at (i := 2) rfl; have x3 := X.out.at (i := 3) rfl; have i1 := X.out.inside)
          ((try clear y0); (try clear y1); (try clear i2); have y0 := Y.out.two.1; have y1 := Y.out.two.2.1; have i2 := Y.out.inside)
          have q3 : (q : Int) < 3 := by omega
          have hl := fun A c W r qn => HALL.out A c (some ⟨gx, 0, none⟩) xc l W e2 r qn
          obtain ⟨p, hp⟩ : ∃ p, p = allowedB (k : Int) bs l := ⟨_, rfl⟩
          rw [← hp] at hl
          have HL := Lib.hid hl; have HP := Lib.hid hp; have E2 := Lib.hid e2
          clear hl hp e2
          cases p
          · go_wp2_with (go_at_call 27; (with_reducible refine (HL.out _ _ _ E.out LL.out).mono ?_); rintro e w9 ⟨rfl, b⟩; have B9 := Lib.hid (below_step HB8.out b); ((try replace X := Lib.hid (X.out.step (below_step (by (repeat (first | exact Below.refl _ _ | refine keep_alloc ?_ _ | refine Below.drew ?_))) b))); (try replace Y := Lib.hid (Y.out.step (below_step (by (repeat (first | exact Below.refl _ _ | refine keep_alloc ?_ _ | refine Below.drew ?_))) b))); (try replace E := Lib.hid (E.out.deep (below_step (by (repeat (first | exact Below.refl _ _ | refine keep_alloc ?_ _ | refine Below.drew ?_))) b))); (try replace Hh := Lib.hid (Hh.out.deep (below_step (by (repeat (first | exact Below.refl _ _ | refine keep_alloc ?_ _ | refine Below.drew ?_))) b))); (try replace S := Lib.hid (S.out.deep (below_step (by (repeat (first | exact Below.refl _ _ | refine keep_alloc ?_ _ | refine Below.drew ?_))) b))); (try replace D := Lib.hid (D.out.step (below_step (by (repeat (first | exact Below.refl _ _ | refine keep_alloc ?_ _ | refine Below.drew ?_))) b))); (try replace BW := Lib.hid (below_step BW.out (below_step (by (repeat (first | exact Below.refl _ _ | refine keep_alloc ?_ _ | refine Below.drew ?_))) b))); clear b))
            go_roundg (3 - (q + 1))
            case measure => omega
            case rel => exact ⟨q + 1, by go_num, by omega, B9.out⟩
          · go_wp2_with (go_at_call 27; (with_reducible refine (HL.out _ _ _ E.out LL.out).mono ?_); rintro e w9 ⟨rfl, b⟩; have B9 := Lib.hid (below_step HB8.out b); replace LL := Lib.hid (LL.out.deep b); ((try replace X := Lib.hid (X.out.step (below_step (by (repeat (first | exact Below.refl _ _ | refine keep_alloc ?_ _ | refine Below.drew ?_))) b))); (try replace Y := Lib.hid (Y.out.step (below_step (by (repeat (first | exact Below.refl _ _ | refine keep_alloc ?_ _ | refine Below.drew ?_))) b))); (try replace E := Lib.hid (E.out.deep (below_step (by (repeat (first | exact Below.refl _ _ | refine keep_alloc ?_ _ | refine Below.drew ?_))) b))); (try replace Hh := Lib.hid (Hh.out.deep (below_step (by (repeat (first | exact Below.refl _ _ | refine keep_alloc ?_ _ | refine Below.drew ?_))) b))); (try replace S := Lib.hid (S.out.deep (below_step (by (repeat (first | exact Below.refl _ _ | refine keep_alloc ?_ _ | refine Below.drew ?_))) b))); (try replace D := Lib.hid (D.out.step (below_step (by (repeat (first | exact Below.refl _ _ | refine keep_alloc ?_ _ | refine Below.drew ?_))) b))); (try replace BW := Lib.hid (below_step BW.out (below_step (by (repeat (first | exact Below.refl _ _ | refine keep_alloc ?_ _ | refine Below.drew ?_))) b))); clear b))
            clear x0 x1 x2 x3 y0 y1 i1 i2 e0'
            go_loopg [15] k (fun kx s15 wi => ∃ i : Nat, s15 = .int .i64 (i : Int) ∧ i + kx = k ∧ Below w9.heap.size w9 wi)
            case atStart => exact ⟨0, rfl, by omega, Below.refl _ _⟩
            case round =>
              obtain ⟨i, rfl, hi', hbi⟩ := hrel
              have c0 := (Y.out.step hbi).two.1
              have BI := Lib.hid hbi
              clear hbi
              by_cases hil : i < k
              · have ik : (i : Int) < (k : Int) := by omega
                go_wp2
                go_loopg [16] k (fun kx s16 wj => ∃ j : Nat, s16 = .int .i64 (j : Int) ∧ j + kx = k ∧ Below w9.heap.size w9 wj)
                case atStart => exact ⟨0, rfl, by omega, BI.out⟩
                case round =>
                  clear c0
                  obtain ⟨j, rfl, hj', hbj⟩ := hrel
                  have c0 := (Y.out.step hbj).two.1
                  by_cases hjl : j < k
                  · have jk : (j : Int) < (k : Int) := by omega
                    obtain ⟨a, ha⟩ : ∃ a, l[i]? = some a := at_lt (by rw [E2.out]; exact hil)
                    obtain ⟨z, hz⟩ : ∃ z, l[j]? = some z := at_lt (by rw [E2.out]; exact hjl)
                    have g0 := nums_cell (LL.out.deep hbj) ha
                    have g1 := nums_cell (LL.out.deep hbj) hz
                    have g2 := (D.out.step hbj).cell hil
                    have g3 := (D.out.step hbj).val hil hjl
                    have m1 := HATB.out l i j a z HP.out.symm ha hz
                    have m2 := HLALL.out l HP.out.symm a (List.mem_of_getElem? ha)
                    have m3 := HLALL.out l HP.out.symm z (List.mem_of_getElem? hz)
                    have BJ := Lib.hid hbj
                    clear hbj ha hz
                    generalize tb bs k (i : Int) (j : Int) = τ at *
                    have wz : IntKind.i64.wrap (z - a) = z - a := IntWalk.i64_in _ (by omega)
                    have hd : decide (z - a > τ) = false := decide_eq_false (by omega)
                    go_upto_region 32 with (fail)
                    go_quiet (fail)
                    go_wp2
                    go_roundg (k - (j + 1))
                    case measure => omega
                    case rel => exact ⟨j + 1, by go_num, by omega, below_drawnN BJ.out _⟩
                  · obtain rfl : j = k := by omega
                    have BJ := Lib.hid hbj
                    clear hbj
                    go_wp2
                    go_roundg (j - (i + 1))
                    case measure => omega
                    case rel => exact ⟨i + 1, by go_num, by omega, BJ.out⟩
              · obtain rfl : i = k := by omega
                go_wp2
                go_roundg (3 - (q + 1))
                case measure => omega
                case rel => exact ⟨q + 1, by go_num, by omega, below_step B9.out BI.out⟩
        · obtain rfl : q = 3 := by omega
          have HB8 := Lib.hid hb
          clear hb
          go_wp2
          go_ret
          exact ⟨rfl, below_step BW.out HB8.out⟩

theorem least_walk (N : Int) (H : List Int) (HA : Option Addr) (hc : Nat) (BL : List Bn) (BA : Option Addr) (bc : Nat) (M which : Int) (hN : In64 N) (hH : ∀ x ∈ H, In64 x) (hHl : H.length ≤ 9223372036854775807)
    (hB : ∀ r ∈ BL, In64 r.1 ∧ In64 r.2.1 ∧ In64 r.2.2) (hBl : BL.length ≤ 9223372036854775807) (hM : In64 M) (hw : In64 which) (w : World) (hr : Nums w w.heap.size HA H) (hb : Rds w w.heap.size BA BL) :
    Calls Try.prog 4 #[nmV N HA H.length hc BA BL.length bc M, .int .i64 which] w fun e w' => e = .returned (.bool true) ∧ Below w.heap.size w w' := by
  cases hfi : fineB ((hidN N : Nat) : Int) (madeL N H BL M) with
  | true => exact least_yes N H HA hc BL BA bc M which hN hH hHl hB hBl hM hw hfi w hr hb
  | false => exact least_no N H HA hc BL BA bc M which hN hH hHl hB hBl hM hfi w hr hb
end Go.Proofs.Ytlgjfbcafbpdeaa
