/- BetweenSolves: its walk. -/
import Derived.Test.YtkeimfkaoianmaaSn
import Derived.Test.YtkeimfkaoianmaaMs
import Derived.BigQuiet
namespace Go.Proofs.Ytkeimfkaoianmaa
open Go.RowKit

theorem nums_cell {W : World} {B g : Nat} {l : List Int} (h : Nums W B (some ⟨g, 0, none⟩) l) {i : Nat} {x : Int} (hx : l[i]? = some x) : W.cell? ⟨g, i, none⟩ = some (.int .i64 x) := by
  obtain ⟨b, o, hA, _, hc⟩ := h.at hx
  cases hA
  rw [Nat.zero_add] at hc
  exact hc

set_option maxRecDepth 100000 in
set_option maxHeartbeats 8000000 in
theorem solves_walk (N : Int) (H : List Int) (HA : Option Addr) (hc : Nat) (BL : List Bn) (BA : Option Addr) (bc : Nat) (M by_ : Int) (hN : In64 N) (hH : ∀ x ∈ H, In64 x) (hHl : H.length ≤ 9223372036854775807)
    (hB : ∀ r ∈ BL, In64 r.1 ∧ In64 r.2.1 ∧ In64 r.2.2) (hBl : BL.length ≤ 9223372036854775807) (_hM : In64 M) (hby : In64 by_) (w : World) (hr : Nums w w.heap.size HA H) (hb : Rds w w.heap.size BA BL) :
    Calls Try.prog 7 #[nmV N HA H.length hc BA BL.length bc M, .int .i64 by_] w fun e w' => e = .returned (.bool true) ∧ Below w.heap.size w w' := by
  have z64 : In64 (0 : Int) := by decide
  have hsan := sane_any
  have hmad := fun W (b : Below w.heap.size w W) => made_any N H HA hc BL BA bc 0 hN hH hHl hB hBl z64 W (hr.deep b) (hb.deep b)
  have hhid := fun W (b : Below w.heap.size w W) => hidden_any N H HA hc BA BL.length bc 0 hN hH hHl W (hr.deep b)
  have hbs := made_okb N H BL 0
  have hfi := made_fineB (N := N) (H := H) (BL := BL) miss0
  have hfn := made_fine (N := N) (H := H) (BL := BL) miss0
  have hva := made_valid N H BL 0
  have hkeep := madeL_keeps (N := N) (H := H) (BL := BL) miss0
  have hbd := hidL_all N H
  have hlen := hidL_len N H
  obtain ⟨n1, n8⟩ := hidN_bd N
  have hK := madeL_len N H BL 0
  have ppk := fun W => pick_any by_ 50 hby.1 hby.2 (by omega) (by omega) W
  have rpk := pk_range (c := by_) (n := 50) (by omega)
  generalize pk by_ 50 = z at *
  generalize hidN N = n at *
  generalize hidL N H = hh at *
  generalize madeL N H BL 0 = bs at *
  have hsol := fun A c W (r : Rds W W.heap.size A bs) => solve_yes n bs A c hfi (by omega) W r
  have hall := fun A c XA xc W (r : Rds W W.heap.size A bs) (q : Nums W W.heap.size XA ((List.range n).map fun i : Nat => sol n bs i)) => allowed_any n bs A c _ XA xc (by omega) (by simp; omega) W r q
  have hall1 : allowedB (n : Int) bs ((List.range n).map fun i : Nat => sol n bs i) = true := by
    rcases sol_allowed hbs (by omega) hfn with h | h
    · exact h
    · omega
  rw [hall1] at hall
  simp only [List.length_map, List.length_range] at hall
  obtain ⟨K, hK'⟩ : ∃ K, K = bs.length := ⟨_, rfl⟩
  rw [← hK'] at hmad hsol hall hK
  have slo := sol_low hbs (show n ≤ 16 by omega)
  have sle := sol_le (bs := bs) (n := n)
  have szero := sol_zero hbs (show n ≤ 16 by omega) hfn (by omega)
  have smost := fun (top : Int) (ht : ∀ u : Nat, u < n → hx hh u ≤ top) (v : Nat) (hv : v < n) => sol_most (x := hx hh) hkeep ht hv
  have HSAN := Lib.hid hsan; have HMAD := Lib.hid hmad; have HHID := Lib.hid hhid; have HSOL := Lib.hid hsol; have HALL := Lib.hid hall; have HBD := Lib.hid hbd; have HLEN := Lib.hid hlen
  have SLO := Lib.hid slo; have SLE := Lib.hid sle; have SZ := Lib.hid szero; have SM := Lib.hid smost; have PPK := Lib.hid ppk
  clear hsan hmad hhid hsol hall hbd hlen slo sle szero smost ppk hbs hfi hfn hva hkeep hall1 hB hBl _hM hby hN hH hHl hr hb z64 hK'
  generalize BL.length = L at *
  generalize H.length = HL at *
  unfold nmV btw at *
  have X : Hid (Row (w.alloc (.cells #[.int .i64 N, .slice HA HL hc, .slice BA L bc, .int .i64 M] 25)) w.heap.size 25 #[.int .i64 N, .slice HA HL hc, .slice BA L bc, .int .i64 M]) := Lib.hid (Row.made _ _ _)
  have BW : Hid (Below w.heap.size w (w.alloc (.cells #[.int .i64 N, .slice HA HL hc, .slice BA L bc, .int .i64 M] 25))) := Lib.hid (below_alloc _ _)
  go_enter Try.func7, Try.ntmps7
  go_upto_region 4 with (go_at_call 10; (with_reducible refine (HSAN.out _).mono ?_); rintro e w1 ⟨rfl, b⟩; ((try replace X := Lib.hid (X.out.step (below_step (by (repeat (first | exact Below.refl _ _ | refine keep_alloc ?_ _ | refine Below.drew ?_))) b))); (try replace Y := Lib.hid (Y.out.step (below_step (by (repeat (first | exact Below.refl _ _ | refine keep_alloc ?_ _ | refine Below.drew ?_))) b))); (try replace E := Lib.hid (E.out.deep (below_step (by (repeat (first | exact Below.refl _ _ | refine keep_alloc ?_ _ | refine Below.drew ?_))) b))); (try replace Hh := Lib.hid (Hh.out.deep (below_step (by (repeat (first | exact Below.refl _ _ | refine keep_alloc ?_ _ | refine Below.drew ?_))) b))); (try replace S := Lib.hid (S.out.deep (below_step (by (repeat (first | exact Below.refl _ _ | refine keep_alloc ?_ _ | refine Below.drew ?_))) b))); (try replace D := Lib.hid (D.out.step (below_step (by (repeat (first | exact Below.refl _ _ | refine keep_alloc ?_ _ | refine Below.drew ?_))) b))); (try replace BW := Lib.hid (below_step BW.out (below_step (by (repeat (first | exact Below.refl _ _ | refine keep_alloc ?_ _ | refine Below.drew ?_))) b))); clear b); have fz := X.out.free 3; have x3 := X.out.at (i := 3) rfl)
  replace X := Lib.hid (X.out.stored 3 (.int .i64 0))
  replace BW := Lib.hid (BW.out.setCell (p := ⟨w.heap.size, 3, none⟩) (Nat.le_refl _) (.int .i64 0))
  clear fz
  obtain ⟨w2, hw2⟩ : ∃ w2, w2 = w1.setCell ⟨w.heap.size, 3, none⟩ (.int .i64 0) := ⟨_, rfl⟩
  rw [← hw2] at X BW ⊢
  clear hw2
  ((try clear x0); (try clear x1); (try clear x2); (try clear x3); (try clear i1); have x0 := X.out.at (i := 0) rfl; have x1 := X.out.at (i := 1) rfl; have x2 := X.out.at (i := 2) rfl; have x3 := X.out.at (i := 3) rfl; have i1 := X.out.inside)
  go_upto_region 9 with (first
    | (go_at_call 12; (with_reducible refine (HMAD.out _ BW.out).mono ?_); rintro e w3 ⟨A, cap, rfl, r, b⟩; ((try replace X := Lib.hid (X.out.step (below_step (by (repeat (first | exact Below.refl _ _ | refine keep_alloc ?_ _ | refine Below.drew ?_))) b))); (try replace Y := Lib.hid (Y.out.step (below_step (by (repeat (first | exact Below.refl _ _ | refine keep_alloc ?_ _ | refine Below.drew ?_))) b))); (try replace E := Lib.hid (E.out.deep (below_step (by (repeat (first | exact Below.refl _ _ | refine keep_alloc ?_ _ | refine Below.drew ?_))) b))); (try replace Hh := Lib.hid (Hh.out.deep (below_step (by (repeat (first | exact Below.refl _ _ | refine keep_alloc ?_ _ | refine Below.drew ?_))) b))); (try replace S := Lib.hid (S.out.deep (below_step (by (repeat (first | exact Below.refl _ _ | refine keep_alloc ?_ _ | refine Below.drew ?_))) b))); (try replace D := Lib.hid (D.out.step (below_step (by (repeat (first | exact Below.refl _ _ | refine keep_alloc ?_ _ | refine Below.drew ?_))) b))); (try replace BW := Lib.hid (below_step BW.out (below_step (by (repeat (first | exact Below.refl _ _ | refine keep_alloc ?_ _ | refine Below.drew ?_))) b))); clear b); have E := Lib.hid r; clear r; ((try clear x0); (try clear x1); (try clear x2); (try clear x3); (try clear i1); have x0 := X.out.at (i := 0) rfl; have x1 := X.out.at (i := 1) rfl; have x2 := X.out.at (i := 2) rfl; have x3 := X.out.at (i := 3) rfl; have i1 := X.out.inside); have Y := Lib.hid (Row.made w3 28 #[.int .i64 (n : Int), .slice A K cap]))
    | (go_at_call 26; (with_reducible refine (HHID.out _ (keep_alloc BW.out _)).mono ?_); rintro e w4 ⟨gh, hcap, rfl, r, b⟩; have yy := Y.out.step b; clear Y; ((try replace X := Lib.hid (X.out.step (below_step (by (repeat (first | exact Below.refl _ _ | refine keep_alloc ?_ _ | refine Below.drew ?_))) b))); (try replace Y := Lib.hid (Y.out.step (below_step (by (repeat (first | exact Below.refl _ _ | refine keep_alloc ?_ _ | refine Below.drew ?_))) b))); (try replace E := Lib.hid (E.out.deep (below_step (by (repeat (first | exact Below.refl _ _ | refine keep_alloc ?_ _ | refine Below.drew ?_))) b))); (try replace Hh := Lib.hid (Hh.out.deep (below_step (by (repeat (first | exact Below.refl _ _ | refine keep_alloc ?_ _ | refine Below.drew ?_))) b))); (try replace S := Lib.hid (S.out.deep (below_step (by (repeat (first | exact Below.refl _ _ | refine keep_alloc ?_ _ | refine Below.drew ?_))) b))); (try replace D := Lib.hid (D.out.step (below_step (by (repeat (first | exact Below.refl _ _ | refine keep_alloc ?_ _ | refine Below.drew ?_))) b))); (try replace BW := Lib.hid (below_step BW.out (below_step (by (repeat (first | exact Below.refl _ _ | refine keep_alloc ?_ _ | refine Below.drew ?_))) b))); clear b); have Y := Lib.hid yy; have Hh := Lib.hid (own_intNums r); clear r yy; ((try clear y0); (try clear y1); (try clear i2); have y0 := Y.out.two.1; have y1 := Y.out.two.2.1; have i2 := Y.out.inside))
    | (go_at_call 18; (with_reducible refine (HSOL.out _ _ _ E.out).mono ?_); rintro e w5 ⟨s, rfl, r, b⟩; ((try replace X := Lib.hid (X.out.step (below_step (by (repeat (first | exact Below.refl _ _ | refine keep_alloc ?_ _ | refine Below.drew ?_))) b))); (try replace Y := Lib.hid (Y.out.step (below_step (by (repeat (first | exact Below.refl _ _ | refine keep_alloc ?_ _ | refine Below.drew ?_))) b))); (try replace E := Lib.hid (E.out.deep (below_step (by (repeat (first | exact Below.refl _ _ | refine keep_alloc ?_ _ | refine Below.drew ?_))) b))); (try replace Hh := Lib.hid (Hh.out.deep (below_step (by (repeat (first | exact Below.refl _ _ | refine keep_alloc ?_ _ | refine Below.drew ?_))) b))); (try replace S := Lib.hid (S.out.deep (below_step (by (repeat (first | exact Below.refl _ _ | refine keep_alloc ?_ _ | refine Below.drew ?_))) b))); (try replace D := Lib.hid (D.out.step (below_step (by (repeat (first | exact Below.refl _ _ | refine keep_alloc ?_ _ | refine Below.drew ?_))) b))); (try replace BW := Lib.hid (below_step BW.out (below_step (by (repeat (first | exact Below.refl _ _ | refine keep_alloc ?_ _ | refine Below.drew ?_))) b))); clear b); have S := Lib.hid (row_nums r); clear r; ((try clear y0); (try clear y1); (try clear i2); have y0 := Y.out.two.1; have y1 := Y.out.two.2.1; have i2 := Y.out.inside))
    | (go_at_call 27; (with_reducible refine (HALL.out _ _ _ _ _ E.out S.out).mono ?_); rintro e w6 ⟨rfl, b⟩; ((try replace X := Lib.hid (X.out.step (below_step (by (repeat (first | exact Below.refl _ _ | refine keep_alloc ?_ _ | refine Below.drew ?_))) b))); (try replace Y := Lib.hid (Y.out.step (below_step (by (repeat (first | exact Below.refl _ _ | refine keep_alloc ?_ _ | refine Below.drew ?_))) b))); (try replace E := Lib.hid (E.out.deep (below_step (by (repeat (first | exact Below.refl _ _ | refine keep_alloc ?_ _ | refine Below.drew ?_))) b))); (try replace Hh := Lib.hid (Hh.out.deep (below_step (by (repeat (first | exact Below.refl _ _ | refine keep_alloc ?_ _ | refine Below.drew ?_))) b))); (try replace S := Lib.hid (S.out.deep (below_step (by (repeat (first | exact Below.refl _ _ | refine keep_alloc ?_ _ | refine Below.drew ?_))) b))); (try replace D := Lib.hid (D.out.step (below_step (by (repeat (first | exact Below.refl _ _ | refine keep_alloc ?_ _ | refine Below.drew ?_))) b))); (try replace BW := Lib.hid (below_step BW.out (below_step (by (repeat (first | exact Below.refl _ _ | refine keep_alloc ?_ _ | refine Below.drew ?_))) b))); clear b); ((try clear y0); (try clear y1); (try clear i2); have y0 := Y.out.two.1; have y1 := Y.out.two.2.1; have i2 := Y.out.inside)))
  obtain ⟨v0, hv0⟩ : ∃ v, hh[0]? = some v := at_lt (by rw [HLEN.out]; omega)
  have c0 := nums_cell Hh.out hv0
  have v0b := HBD.out _ (List.mem_of_getElem? hv0)
  have nn : (0 : Int) < (n : Int) := by omega
  clear x0 x1 x2 x3 y0 y1 i1 i2 hv0
  go_wp2
  go_loopg [9, 10] n (fun kx s9 s10 wr => ∃ (k : Nat) (t : Int), s10 = .int .i64 (k : Int) ∧ s9 = .int .i64 t ∧ k + kx = n ∧ Below w6.heap.size w6 wr ∧ (-100 ≤ t ∧ t ≤ 99) ∧ Hid (∀ u : Nat, u < k → hx hh u ≤ t))
  case atStart => exact ⟨0, v0, rfl, rfl, by omega, Below.refl _ _, v0b, Lib.hid (fun u hu => by omega)⟩
  case round =>
    clear c0
    obtain ⟨k, t, rfl, rfl, hk, hb, ht, HLE⟩ := hrel
    by_cases hlt : k < n
    · obtain ⟨x, hxk⟩ : ∃ x, hh[k]? = some x := at_lt (by rw [HLEN.out]; exact hlt)
      have c1 := nums_cell (Hh.out.deep hb) hxk
      have xb := HBD.out _ (List.mem_of_getElem? hxk)
      have HB := Lib.hid hb; have HX := Lib.hid hxk
      clear hb hxk
      have kn : (k : Int) < (n : Int) := by omega
      rcases Int.lt_or_le t x with hm | hm
      all_goals (go_wp2; go_roundg (n - (k + 1)); (case measure => omega); case rel => exact ⟨k + 1, max t x, by go_num, by congr 1; omega, by omega, HB.out, by omega, Lib.hid (fun u hu => by
          rcases Nat.lt_or_ge u k with e | e
          · have := HLE.out u e; omega
          · obtain rfl : u = k := by omega
            have : hx hh (u : Int) = x := by unfold hx; rw [List.getD_eq_getElem?_getD, Int.toNat_natCast, HX.out]; rfl
            omega)⟩)
    · obtain rfl : k = n := by omega
      have hsm := SM.out t HLE.out
      have HSM := Lib.hid hsm; have HB := Lib.hid hb
      have kk : ¬ (k : Int) < (k : Int) := by omega
      have e0 : ((k : Int) == 0) = false := by simp; omega
      clear hsm hb HLE hlt hk
      go_wp2
      go_loopg [11, 12] k (fun kx s11 s12 wq => ∃ (q : Bool) (j : Nat), s12 = .int .i64 (j : Int) ∧ s11 = .bool q ∧ j + kx = k ∧ Below w6.heap.size w6 wq ∧ Hid (q = true ↔ ∃ u : Nat, u < j ∧ sol k bs (u : Int) = 0))
      case atStart => exact ⟨false, 0, rfl, rfl, by omega, HB.out, Lib.hid ⟨fun e => (by cases e), fun ⟨u, hu, _⟩ => (by omega)⟩⟩
      case round =>
        obtain ⟨q, j, rfl, rfl, hj, hb, HQ⟩ := hrel
        by_cases hlt : j < k
        · obtain ⟨x, hxk⟩ : ∃ x, hh[j]? = some x := at_lt (by rw [HLEN.out]; exact hlt)
          have c1 := nums_cell (Hh.out.deep hb) hxk
          have xb := HBD.out _ (List.mem_of_getElem? hxk)
          have hsj : ((List.range k).map fun i : Nat => sol k bs i)[j]? = some (sol k bs (j : Int)) := by rw [List.getElem?_map, List.getElem?_range hlt]; rfl
          have c2 := nums_cell (S.out.deep hb) hsj
          have l1 := SLO.out (j : Int)
          have l2 := SLE.out (j : Int)
          have l3 := HSM.out j hlt
          have hxe : hx hh (j : Int) = x := by unfold hx; rw [List.getD_eq_getElem?_getD, Int.toNat_natCast, hxk]; rfl
          rw [hxe] at l3
          have HQ' : Hid (∀ q' : Bool, (q' = true ↔ q = true ∨ sol k bs (j : Int) = 0) → (q' = true ↔ ∃ u : Nat, u < j + 1 ∧ sol k bs (u : Int) = 0)) := Lib.hid (fun q' h' => by
            rw [h', HQ.out]
            constructor
            · rintro (⟨u, hu, e⟩ | e)
              · exact ⟨u, by omega, e⟩
              · exact ⟨j, by omega, e⟩
            · rintro ⟨u, hu, e⟩
              rcases Nat.lt_or_ge u j with h1 | h1
              · exact .inl ⟨u, h1, e⟩
              · obtain rfl : u = j := by omega
                exact .inr e)
          have HB2 := Lib.hid hb
          clear hb hxk hsj hxe HQ
          generalize sol k bs (j : Int) = σ at *
          have kn : (j : Int) < (k : Int) := by omega
          have hd : decide (σ > 0) = false := decide_eq_false (by omega)
          have hw1 : IntKind.i64.wrap (x - t) = x - t := IntWalk.i64_in _ (by omega)
          have hw2 : IntKind.i64.wrap (x - t - z) = x - t - z := IntWalk.i64_in _ (by omega)
          have hd2 : decide (x - t - z > σ) = false := decide_eq_false (by omega)
          cases q
          · by_cases hz : σ = 0
            · subst hz
              go_upto_region 19 with (fail)
              go_quiet ((go_at_call 13; exact Calls.quiet_of_same (PPK.out _)))
              go_wp2
              go_roundg (k - (j + 1))
              case measure => omega
              case rel => exact ⟨true, j + 1, by go_num, rfl, by omega, below_drawnN HB2.out _, Lib.hid (HQ'.out true (by simp))⟩
            · have hz2 : (σ == 0) = false := by simpa using hz
              go_upto_region 19 with (fail)
              go_quiet ((go_at_call 13; exact Calls.quiet_of_same (PPK.out _)))
              go_wp2
              go_roundg (k - (j + 1))
              case measure => omega
              case rel => exact ⟨false, j + 1, by go_num, rfl, by omega, below_drawnN HB2.out _, Lib.hid (HQ'.out false (by simp [hz]))⟩
          · go_upto_region 19 with (fail)
            go_quiet ((go_at_call 13; exact Calls.quiet_of_same (PPK.out _)))
            go_wp2
            go_roundg (k - (j + 1))
            case measure => omega
            case rel => exact ⟨true, j + 1, by go_num, rfl, by omega, below_drawnN HB2.out _, Lib.hid (HQ'.out true (by simp))⟩
        · obtain rfl : j = k := by omega
          have hq : q = true := HQ.out.2 SZ.out
          subst hq
          have HB2 := Lib.hid hb
          clear hb HQ
          go_wp2
          go_ret
          exact ⟨rfl, below_step BW.out HB2.out⟩
end Go.Proofs.Ytkeimfkaoianmaa
