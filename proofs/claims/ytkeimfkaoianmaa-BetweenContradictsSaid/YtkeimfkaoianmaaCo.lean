/- BetweenContradicts: its walk. -/
import Derived.Test.YtkeimfkaoianmaaCf
import Derived.Test.YtkeimfkaoianmaaSol
import Derived.Lib.QuietBelow
import Derived.BigQuiet
namespace Go.Proofs.Ytkeimfkaoianmaa
open Go.RowKit

set_option maxRecDepth 100000 in
set_option maxHeartbeats 8000000 in
theorem contra_walk (N : Int) (H : List Int) (HA : Option Addr) (hc : Nat) (BL : List Bn) (BA : Option Addr) (bc : Nat) (M which_ : Int) (l : List Int) (LA : Option Addr) (lc : Nat) (y : List Int) (YA : Option Addr) (yc : Nat) (hN : In64 N) (hH : ∀ x ∈ H, In64 x) (hHl : H.length ≤ 9223372036854775807)
    (hB : ∀ r ∈ BL, In64 r.1 ∧ In64 r.2.1 ∧ In64 r.2.2) (hBl : BL.length ≤ 9223372036854775807) (hM : In64 M) (h0 : In64 which_) (hl : l.length ≤ lc ∧ lc ≤ 9223372036854775807) (hy : y.length ≤ yc ∧ yc ≤ 9223372036854775807) (w : World) (hr : Nums w w.heap.size HA H) (hb : Rds w w.heap.size BA BL) (hll : Nums w w.heap.size LA l) (hyy : Nums w w.heap.size YA y) :
    Calls Try.prog 5 #[nmV N HA H.length hc BA BL.length bc M, .int .i64 which_, .slice LA l.length lc, .slice YA y.length yc] w fun e w' => e = .returned (.bool true) ∧ Below w.heap.size w w' := by
  have hsan := sane_any
  have hmad := fun W (b : Below w.heap.size w W) => made_any N H HA hc BL BA bc M hN hH hHl hB hBl hM W (hr.deep b) (hb.deep b)
  have hhid := fun W (b : Below w.heap.size w W) => hidden_any N H HA hc BA BL.length bc M hN hH hHl W (hr.deep b)
  have hmi := fun W => misses_any N HA H.length hc BA BL.length bc M hM W
  have hbs := made_okb N H BL M
  have hva := made_valid N H BL M
  have hmf := made_fine (N := N) (H := H) (BL := BL) (M := M)
  have hlen := hidL_len N H
  have hn := hidN_bd N
  have hK := madeL_len N H BL M
  generalize hidN N = n at *
  generalize hidL N H = hh at *
  generalize madeL N H BL M = bs at *
  have hsh := short_take LA l lc hl
  have hsy := short_take YA y yc hy
  have hl20 := take_le l
  have hy20 := take_le y
  have hll2 := hll.take 20
  have hyy2 := hyy.take 20
  generalize l.take 20 = l2 at *
  generalize y.take 20 = y2 at *
  obtain ⟨K, hK'⟩ : ∃ K, K = bs.length := ⟨_, rfl⟩
  have HSAN := Lib.hid hsan; have HLEN := Lib.hid hlen; have LL := Lib.hid hll2; have YY := Lib.hid hyy2; have HSH := Lib.hid hsh; have HSY := Lib.hid hsy
  clear hsan hlen hll2 hyy2 hsh hsy
  generalize hHL : H.length = HL at *
  generalize hLL : BL.length = L at *
  generalize l.length = lL at *
  generalize y.length = yL at *
  have X : Hid (Row (w.alloc (.cells #[.int .i64 N, .slice HA HL hc, .slice BA L bc, .int .i64 M] 25)) w.heap.size 25 #[.int .i64 N, .slice HA HL hc, .slice BA L bc, .int .i64 M]) := Lib.hid (Row.made _ _ _)
  have BW : Hid (Below w.heap.size w (w.alloc (.cells #[.int .i64 N, .slice HA HL hc, .slice BA L bc, .int .i64 M] 25))) := Lib.hid (below_alloc _ _)
  replace LL := Lib.hid (LL.out.deep BW.out)
  replace YY := Lib.hid (YY.out.deep BW.out)
  rcases hcy : cyO bs n with _ | c
  · obtain ⟨S0, f1, f2, f3, f4⟩ := contra_none hbs hva hn hK hcy
    rw [← hK'] at hmad hK f1 f2 f3 f4
    unfold nmV btw at *
    have HMAD := Lib.hid hmad; have HCY := Lib.hid f1; have HSOL := Lib.hid f2; have HALL := Lib.hid f3; have HCK := Lib.hid f4
    clear hmad f1 f2 f3 f4 hbs hva hK' hB hBl hN hH hHl hr hb hll hyy h0 hl hy hM hcy hmf hhid hmi hHL hLL
    obtain ⟨n1, n8⟩ := hn
    go_enter Try.func5, Try.ntmps5
    go_upto_region 10 with (first
      | (go_at_call 10; (with_reducible refine (HSAN.out _).mono ?_); rintro e w1 ⟨rfl, b⟩; ((try replace X := Lib.hid (X.out.step (below_step (by (repeat (first | exact Below.refl _ _ | refine keep_alloc ?_ _ | refine Below.drew ?_))) b))); (try replace Y := Lib.hid (Y.out.step (below_step (by (repeat (first | exact Below.refl _ _ | refine keep_alloc ?_ _ | refine Below.drew ?_))) b))); (try replace E := Lib.hid (E.out.deep (below_step (by (repeat (first | exact Below.refl _ _ | refine keep_alloc ?_ _ | refine Below.drew ?_))) b))); (try replace CH := Lib.hid (CH.out.deep (below_step (by (repeat (first | exact Below.refl _ _ | refine keep_alloc ?_ _ | refine Below.drew ?_))) b))); (try replace S := Lib.hid (S.out.deep (below_step (by (repeat (first | exact Below.refl _ _ | refine keep_alloc ?_ _ | refine Below.drew ?_))) b))); (try replace LL := Lib.hid (LL.out.deep (below_step (by (repeat (first | exact Below.refl _ _ | refine keep_alloc ?_ _ | refine Below.drew ?_))) b))); (try replace YY := Lib.hid (YY.out.deep (below_step (by (repeat (first | exact Below.refl _ _ | refine keep_alloc ?_ _ | refine Below.drew ?_))) b))); (try replace BW := Lib.hid (below_step BW.out (below_step (by (repeat (first | exact Below.refl _ _ | refine keep_alloc ?_ _ | refine Below.drew ?_))) b))); clear b); ((try clear x0); (try clear x1); (try clear x2); (try clear x3); (try clear i1); have x0 := X.out.at (i := 0) rfl; have x1 := X.out.at (i := 1) rfl; have x2 := X.out.at (i := 2) rfl; have x3 := X.out.at (i := 3) rfl; have i1 := X.out.inside))
      | (go_at_call 12; (with_reducible refine (HMAD.out _ BW.out).mono ?_); rintro e w3 ⟨A, cap, rfl, r, b⟩; ((try replace X := Lib.hid (X.out.step (below_step (by (repeat (first | exact Below.refl _ _ | refine keep_alloc ?_ _ | refine Below.drew ?_))) b))); (try replace Y := Lib.hid (Y.out.step (below_step (by (repeat (first | exact Below.refl _ _ | refine keep_alloc ?_ _ | refine Below.drew ?_))) b))); (try replace E := Lib.hid (E.out.deep (below_step (by (repeat (first | exact Below.refl _ _ | refine keep_alloc ?_ _ | refine Below.drew ?_))) b))); (try replace CH := Lib.hid (CH.out.deep (below_step (by (repeat (first | exact Below.refl _ _ | refine keep_alloc ?_ _ | refine Below.drew ?_))) b))); (try replace S := Lib.hid (S.out.deep (below_step (by (repeat (first | exact Below.refl _ _ | refine keep_alloc ?_ _ | refine Below.drew ?_))) b))); (try replace LL := Lib.hid (LL.out.deep (below_step (by (repeat (first | exact Below.refl _ _ | refine keep_alloc ?_ _ | refine Below.drew ?_))) b))); (try replace YY := Lib.hid (YY.out.deep (below_step (by (repeat (first | exact Below.refl _ _ | refine keep_alloc ?_ _ | refine Below.drew ?_))) b))); (try replace BW := Lib.hid (below_step BW.out (below_step (by (repeat (first | exact Below.refl _ _ | refine keep_alloc ?_ _ | refine Below.drew ?_))) b))); clear b); have E := Lib.hid (r.deep (below_alloc _ (.cells #[.int .i64 (n : Int), .slice A K cap] 28))); clear r; ((try clear x0); (try clear x1); (try clear x2); (try clear x3); (try clear i1); have x0 := X.out.at (i := 0) rfl; have x1 := X.out.at (i := 1) rfl; have x2 := X.out.at (i := 2) rfl; have x3 := X.out.at (i := 3) rfl; have i1 := X.out.inside); have Y := Lib.hid (Row.made w3 28 #[.int .i64 (n : Int), .slice A K cap]); replace LL := Lib.hid (LL.out.deep (below_alloc _ (.cells #[.int .i64 (n : Int), .slice A K cap] 28))); replace YY := Lib.hid (YY.out.deep (below_alloc _ (.cells #[.int .i64 (n : Int), .slice A K cap] 28))); replace X := Lib.hid (X.out.step (below_alloc _ (.cells #[.int .i64 (n : Int), .slice A K cap] 28))); replace BW := Lib.hid (keep_alloc BW.out (.cells #[.int .i64 (n : Int), .slice A K cap] 28)))
      | (go_at_call 20; (with_reducible refine (HCY.out _ _ _ E.out).mono ?_); rintro e w4 ⟨rfl, b⟩; ((try replace X := Lib.hid (X.out.step (below_step (by (repeat (first | exact Below.refl _ _ | refine keep_alloc ?_ _ | refine Below.drew ?_))) b))); (try replace Y := Lib.hid (Y.out.step (below_step (by (repeat (first | exact Below.refl _ _ | refine keep_alloc ?_ _ | refine Below.drew ?_))) b))); (try replace E := Lib.hid (E.out.deep (below_step (by (repeat (first | exact Below.refl _ _ | refine keep_alloc ?_ _ | refine Below.drew ?_))) b))); (try replace CH := Lib.hid (CH.out.deep (below_step (by (repeat (first | exact Below.refl _ _ | refine keep_alloc ?_ _ | refine Below.drew ?_))) b))); (try replace S := Lib.hid (S.out.deep (below_step (by (repeat (first | exact Below.refl _ _ | refine keep_alloc ?_ _ | refine Below.drew ?_))) b))); (try replace LL := Lib.hid (LL.out.deep (below_step (by (repeat (first | exact Below.refl _ _ | refine keep_alloc ?_ _ | refine Below.drew ?_))) b))); (try replace YY := Lib.hid (YY.out.deep (below_step (by (repeat (first | exact Below.refl _ _ | refine keep_alloc ?_ _ | refine Below.drew ?_))) b))); (try replace BW := Lib.hid (below_step BW.out (below_step (by (repeat (first | exact Below.refl _ _ | refine keep_alloc ?_ _ | refine Below.drew ?_))) b))); clear b); ((try clear y0); (try clear y1); (try clear i2); have y0 := Y.out.two.1; have y1 := Y.out.two.2.1; have i2 := Y.out.inside))
      | (go_at_call 18; (with_reducible refine (HSOL.out _ _ _ E.out).mono ?_); rintro e w5 ⟨s, rfl, r, b⟩; ((try replace X := Lib.hid (X.out.step (below_step (by (repeat (first | exact Below.refl _ _ | refine keep_alloc ?_ _ | refine Below.drew ?_))) b))); (try replace Y := Lib.hid (Y.out.step (below_step (by (repeat (first | exact Below.refl _ _ | refine keep_alloc ?_ _ | refine Below.drew ?_))) b))); (try replace E := Lib.hid (E.out.deep (below_step (by (repeat (first | exact Below.refl _ _ | refine keep_alloc ?_ _ | refine Below.drew ?_))) b))); (try replace CH := Lib.hid (CH.out.deep (below_step (by (repeat (first | exact Below.refl _ _ | refine keep_alloc ?_ _ | refine Below.drew ?_))) b))); (try replace S := Lib.hid (S.out.deep (below_step (by (repeat (first | exact Below.refl _ _ | refine keep_alloc ?_ _ | refine Below.drew ?_))) b))); (try replace LL := Lib.hid (LL.out.deep (below_step (by (repeat (first | exact Below.refl _ _ | refine keep_alloc ?_ _ | refine Below.drew ?_))) b))); (try replace YY := Lib.hid (YY.out.deep (below_step (by (repeat (first | exact Below.refl _ _ | refine keep_alloc ?_ _ | refine Below.drew ?_))) b))); (try replace BW := Lib.hid (below_step BW.out (below_step (by (repeat (first | exact Below.refl _ _ | refine keep_alloc ?_ _ | refine Below.drew ?_))) b))); clear b); have S := Lib.hid r; clear r; ((try clear y0); (try clear y1); (try clear i2); have y0 := Y.out.two.1; have y1 := Y.out.two.2.1; have i2 := Y.out.inside))
      | (go_at_call 27; (with_reducible refine (HALL.out _ _ _ _ _ E.out S.out).mono ?_); rintro e w6 ⟨rfl, b⟩; ((try replace X := Lib.hid (X.out.step (below_step (by (repeat (first | exact Below.refl _ _ | refine keep_alloc ?_ _ | refine Below.drew ?_))) b))); (try replace Y := Lib.hid (Y.out.step (below_step (by (repeat (first | exact Below.refl _ _ | refine keep_alloc ?_ _ | refine Below.drew ?_))) b))); (try replace E := Lib.hid (E.out.deep (below_step (by (repeat (first | exact Below.refl _ _ | refine keep_alloc ?_ _ | refine Below.drew ?_))) b))); (try replace CH := Lib.hid (CH.out.deep (below_step (by (repeat (first | exact Below.refl _ _ | refine keep_alloc ?_ _ | refine Below.drew ?_))) b))); (try replace S := Lib.hid (S.out.deep (below_step (by (repeat (first | exact Below.refl _ _ | refine keep_alloc ?_ _ | refine Below.drew ?_))) b))); (try replace LL := Lib.hid (LL.out.deep (below_step (by (repeat (first | exact Below.refl _ _ | refine keep_alloc ?_ _ | refine Below.drew ?_))) b))); (try replace YY := Lib.hid (YY.out.deep (below_step (by (repeat (first | exact Below.refl _ _ | refine keep_alloc ?_ _ | refine Below.drew ?_))) b))); (try replace BW := Lib.hid (below_step BW.out (below_step (by (repeat (first | exact Below.refl _ _ | refine keep_alloc ?_ _ | refine Below.drew ?_))) b))); clear b); ((try clear y0); (try clear y1); (try clear i2); have y0 := Y.out.two.1; have y1 := Y.out.two.2.1; have i2 := Y.out.inside)))
    have ck1 : ∀ W, Below w6.heap.size w6 W → Calls Try.prog 29 #[.agg #[.int .i64 (n : Int), .slice A K cap], .slice none 0 0] W fun e w' => e = .returned (.bool false) ∧ Below W.heap.size W w' := fun W b => HCK.out _ cap [] none 0 W (by simp) (E.out.deep b) (.inl rfl)
    have ck2 := fun W (b : Below w6.heap.size w6 W) => HCK.out _ cap l2 LA lc W (by omega) (E.out.deep b) (LL.out.deep b)
    have sh2 := fun W (_ : Below w6.heap.size w6 W) => HSH.out W
    have CK1 := Lib.hid ck1; have CK2 := Lib.hid ck2; have SH2 := Lib.hid sh2
    clear ck1 ck2 sh2
    go_cut [14] (fun s14 W => s14 = .bool false ∧ Below w6.heap.size w6 W)
    case first =>
      have g0 := cell_regrown y0
      have g1 := cell_regrown y1
      clear y0 y1 x0 x1 x2 x3
      refine wp_region_quiet_below (by kernel_rfl) (by kernel_rfl) ?_
      repeat (go_big_quiet_step (first | (go_at_call 29; with_reducible first | exact Calls.regrown_of (CK1.out _ (below_regrown _ _ _)) | exact Calls.regrown_of (CK2.out _ (below_regrown _ _ _))) | (go_at_call 11; with_reducible exact Calls.regrown_of (SH2.out _ (below_regrown _ _ _)))))
      (refine wpQuiet_nil ?_; intro _ hw'; obtain ⟨⟨dq, osq⟩, hw''⟩ := hw'; subst hw'')
      go_wp2_with fail
      go_meet
      case rel => exact ⟨rfl, below_regrown _ _ _⟩
    case rest =>
      obtain ⟨rfl, hbw⟩ := hcut
      have b := hbw
      clear hbw y0 y1 x0 x1 x2 x3 i1 i2 CK1 CK2 SH2
      (replace X := Lib.hid (X.out.step b); replace Y := Lib.hid (Y.out.step b); replace E := Lib.hid (E.out.deep b); (try replace CH := Lib.hid (CH.out.deep b)); (try replace S := Lib.hid (S.out.deep b)); replace LL := Lib.hid (LL.out.deep b); replace YY := Lib.hid (YY.out.deep b); replace BW := Lib.hid (below_step BW.out b); clear b)
      go_upto_region 11 with (fail)
      go_cut [88] (fun s88 W => s88 = .bool false ∧ Below wc.heap.size wc W)
      case first =>
        go_quiet (fail)
        go_wp2_with fail
        go_meet
        case rel => exact ⟨rfl, below_drawnN (Below.refl _ _) _⟩
      case rest =>
        obtain ⟨rfl, hbw⟩ := hcut
        go_wp2
        go_ret
        exact ⟨rfl, below_step BW.out hbw⟩
  · have hm : missB M = true := by
      cases h : missB M with
      | true => rfl
      | false =>
        have hf := hmf h
        obtain ⟨⟨u, s, hu, hw, hs⟩, _, _⟩ := cyO_bad hbs (show n ≤ 16 by omega) hcy
        exact absurd ⟨(u : Int), s, hw, by omega⟩ (hf c)
    rw [hm] at hmi
    obtain ⟨f1, f2, f3, f4, ⟨c1, c8⟩, hmem, f7, f8⟩ := contra_some hbs hva hn hK hcy
    have pq := fun W => pick_any which_ c.length h0.1 h0.2 (by omega) (by omega) W
    have rq := pk_range (c := which_) (n := (c.length : Int)) (by omega)
    generalize pk which_ c.length = kk at *
    obtain ⟨kk, rfl⟩ := Int.eq_ofNat_of_zero_le rq.1
    have fal : ∀ A cp XA xc W, Rds W W.heap.size A bs → Nums W W.heap.size XA hh → Calls Try.prog 27 #[btw n A bs.length cp, .slice XA n xc] W fun e w' => e = .returned (.bool false) ∧ Below W.heap.size W w' := fun A cp XA xc W r q => by
      have := f4 A cp hh XA xc W (by rw [HLEN.out]; omega) r q
      rw [HLEN.out] at this
      exact this
    have fay := fun A cp XA xc W r q => f4 A cp y2 XA xc W (by omega) r q
    rw [← hK'] at hmad hK f1 f2 f3 fal fay
    have hat : ∀ i, i < c.length → ∃ j b, c[i]? = some j ∧ j ∈ c ∧ j < K ∧ bs[j]? = some b := fun i hi => by
      obtain ⟨j, hj⟩ : ∃ j, c[i]? = some j := at_lt hi
      have hjm := List.mem_of_getElem? hj
      obtain ⟨b, hb⟩ : ∃ b, bs[j]? = some b := at_lt (hmem j hjm)
      exact ⟨j, b, hj, hjm, by rw [hK']; exact hmem j hjm, hb⟩
    obtain ⟨cl, hcl⟩ : ∃ cl, cl = c.length := ⟨_, rfl⟩
    rw [← hcl] at f1 f3 c1 c8 pq rq hat f7
    unfold nmV btw at *
    have HMAD := Lib.hid hmad; have HCY := Lib.hid f1; have HSOL := Lib.hid f2; have HCK := Lib.hid f3; have HAH := Lib.hid fal; have HAY := Lib.hid fay; have HHID := Lib.hid hhid; have HMI := Lib.hid hmi; have PQ := Lib.hid pq; have HLESS := Lib.hid f7; have HALLS := Lib.hid f8; have HAT := Lib.hid hat; have HCL := Lib.hid hcl
    clear hmad f1 f2 f3 f4 f7 f8 fal fay hhid hmi pq hat hbs hva hK' hB hBl hN hH hHl hr hb hll hyy h0 hl hy hM hcy hmf hHL hLL hm hmem hcl
    obtain ⟨n1, n8⟩ := hn
    go_enter Try.func5, Try.ntmps5
    go_upto_region 10 with (first
      | (go_at_call 10; (with_reducible refine (HSAN.out _).mono ?_); rintro e w1 ⟨rfl, b⟩; ((try replace X := Lib.hid (X.out.step (below_step (by (repeat (first | exact Below.refl _ _ | refine keep_alloc ?_ _ | refine Below.drew ?_))) b))); (try replace Y := Lib.hid (Y.out.step (below_step (by (repeat (first | exact Below.refl _ _ | refine keep_alloc ?_ _ | refine Below.drew ?_))) b))); (try replace E := Lib.hid (E.out.deep (below_step (by (repeat (first | exact Below.refl _ _ | refine keep_alloc ?_ _ | refine Below.drew ?_))) b))); (try replace CH := Lib.hid (CH.out.deep (below_step (by (repeat (first | exact Below.refl _ _ | refine keep_alloc ?_ _ | refine Below.drew ?_))) b))); (try replace S := Lib.hid (S.out.deep (below_step (by (repeat (first | exact Below.refl _ _ | refine keep_alloc ?_ _ | refine Below.drew ?_))) b))); (try replace LL := Lib.hid (LL.out.deep (below_step (by (repeat (first | exact Below.refl _ _ | refine keep_alloc ?_ _ | refine Below.drew ?_))) b))); (try replace YY := Lib.hid (YY.out.deep (below_step (by (repeat (first | exact Below.refl _ _ | refine keep_alloc ?_ _ | refine Below.drew ?_))) b))); (try replace BW := Lib.hid (below_step BW.out (below_step (by (repeat (first | exact Below.refl _ _ | refine keep_alloc ?_ _ | refine Below.drew ?_))) b))); clear b); ((try clear x0); (try clear x1); (try clear x2); (try clear x3); (try clear i1); have x0 := X.out.at (i := 0) rfl; have x1 := X.out.at (i := 1) rfl; have x2 := X.out.at (i := 2) rfl; have x3 := X.out.at (i := 3) rfl; have i1 := X.out.inside))
      | (go_at_call 12; (with_reducible refine (HMAD.out _ BW.out).mono ?_); rintro e w3 ⟨A, cap, rfl, r, b⟩; ((try replace X := Lib.hid (X.out.step (below_step (by (repeat (first | exact Below.refl _ _ | refine keep_alloc ?_ _ | refine Below.drew ?_))) b))); (try replace Y := Lib.hid (Y.out.step (below_step (by (repeat (first | exact Below.refl _ _ | refine keep_alloc ?_ _ | refine Below.drew ?_))) b))); (try replace E := Lib.hid (E.out.deep (below_step (by (repeat (first | exact Below.refl _ _ | refine keep_alloc ?_ _ | refine Below.drew ?_))) b))); (try replace CH := Lib.hid (CH.out.deep (below_step (by (repeat (first | exact Below.refl _ _ | refine keep_alloc ?_ _ | refine Below.drew ?_))) b))); (try replace S := Lib.hid (S.out.deep (below_step (by (repeat (first | exact Below.refl _ _ | refine keep_alloc ?_ _ | refine Below.drew ?_))) b))); (try replace LL := Lib.hid (LL.out.deep (below_step (by (repeat (first | exact Below.refl _ _ | refine keep_alloc ?_ _ | refine Below.drew ?_))) b))); (try replace YY := Lib.hid (YY.out.deep (below_step (by (repeat (first | exact Below.refl _ _ | refine keep_alloc ?_ _ | refine Below.drew ?_))) b))); (try replace BW := Lib.hid (below_step BW.out (below_step (by (repeat (first | exact Below.refl _ _ | refine keep_alloc ?_ _ | refine Below.drew ?_))) b))); clear b); have E := Lib.hid (r.deep (below_alloc _ (.cells #[.int .i64 (n : Int), .slice A K cap] 28))); clear r; ((try clear x0); (try clear x1); (try clear x2); (try clear x3); (try clear i1); have x0 := X.out.at (i := 0) rfl; have x1 := X.out.at (i := 1) rfl; have x2 := X.out.at (i := 2) rfl; have x3 := X.out.at (i := 3) rfl; have i1 := X.out.inside); have Y := Lib.hid (Row.made w3 28 #[.int .i64 (n : Int), .slice A K cap]); replace LL := Lib.hid (LL.out.deep (below_alloc _ (.cells #[.int .i64 (n : Int), .slice A K cap] 28))); replace YY := Lib.hid (YY.out.deep (below_alloc _ (.cells #[.int .i64 (n : Int), .slice A K cap] 28))); replace X := Lib.hid (X.out.step (below_alloc _ (.cells #[.int .i64 (n : Int), .slice A K cap] 28))); replace BW := Lib.hid (keep_alloc BW.out (.cells #[.int .i64 (n : Int), .slice A K cap] 28)))
      | (go_at_call 20; (with_reducible refine (HCY.out _ _ _ E.out).mono ?_); rintro e w4 ⟨gc, cc, rfl, r, b⟩; ((try replace X := Lib.hid (X.out.step (below_step (by (repeat (first | exact Below.refl _ _ | refine keep_alloc ?_ _ | refine Below.drew ?_))) b))); (try replace Y := Lib.hid (Y.out.step (below_step (by (repeat (first | exact Below.refl _ _ | refine keep_alloc ?_ _ | refine Below.drew ?_))) b))); (try replace E := Lib.hid (E.out.deep (below_step (by (repeat (first | exact Below.refl _ _ | refine keep_alloc ?_ _ | refine Below.drew ?_))) b))); (try replace CH := Lib.hid (CH.out.deep (below_step (by (repeat (first | exact Below.refl _ _ | refine keep_alloc ?_ _ | refine Below.drew ?_))) b))); (try replace S := Lib.hid (S.out.deep (below_step (by (repeat (first | exact Below.refl _ _ | refine keep_alloc ?_ _ | refine Below.drew ?_))) b))); (try replace LL := Lib.hid (LL.out.deep (below_step (by (repeat (first | exact Below.refl _ _ | refine keep_alloc ?_ _ | refine Below.drew ?_))) b))); (try replace YY := Lib.hid (YY.out.deep (below_step (by (repeat (first | exact Below.refl _ _ | refine keep_alloc ?_ _ | refine Below.drew ?_))) b))); (try replace BW := Lib.hid (below_step BW.out (below_step (by (repeat (first | exact Below.refl _ _ | refine keep_alloc ?_ _ | refine Below.drew ?_))) b))); clear b); have CH := Lib.hid r; clear r; ((try clear x0); (try clear x1); (try clear x2); (try clear x3); (try clear i1); have x0 := X.out.at (i := 0) rfl; have x1 := X.out.at (i := 1) rfl; have x2 := X.out.at (i := 2) rfl; have x3 := X.out.at (i := 3) rfl; have i1 := X.out.inside); ((try clear y0); (try clear y1); (try clear i2); have y0 := Y.out.two.1; have y1 := Y.out.two.2.1; have i2 := Y.out.inside))
      | (go_at_call 18; (with_reducible refine (HSOL.out _ _ _ E.out).mono ?_); rintro e w5 ⟨rfl, b⟩; ((try replace X := Lib.hid (X.out.step (below_step (by (repeat (first | exact Below.refl _ _ | refine keep_alloc ?_ _ | refine Below.drew ?_))) b))); (try replace Y := Lib.hid (Y.out.step (below_step (by (repeat (first | exact Below.refl _ _ | refine keep_alloc ?_ _ | refine Below.drew ?_))) b))); (try replace E := Lib.hid (E.out.deep (below_step (by (repeat (first | exact Below.refl _ _ | refine keep_alloc ?_ _ | refine Below.drew ?_))) b))); (try replace CH := Lib.hid (CH.out.deep (below_step (by (repeat (first | exact Below.refl _ _ | refine keep_alloc ?_ _ | refine Below.drew ?_))) b))); (try replace S := Lib.hid (S.out.deep (below_step (by (repeat (first | exact Below.refl _ _ | refine keep_alloc ?_ _ | refine Below.drew ?_))) b))); (try replace LL := Lib.hid (LL.out.deep (below_step (by (repeat (first | exact Below.refl _ _ | refine keep_alloc ?_ _ | refine Below.drew ?_))) b))); (try replace YY := Lib.hid (YY.out.deep (below_step (by (repeat (first | exact Below.refl _ _ | refine keep_alloc ?_ _ | refine Below.drew ?_))) b))); (try replace BW := Lib.hid (below_step BW.out (below_step (by (repeat (first | exact Below.refl _ _ | refine keep_alloc ?_ _ | refine Below.drew ?_))) b))); clear b); ((try clear x0); (try clear x1); (try clear x2); (try clear x3); (try clear i1); have x0 := X.out.at (i := 0) rfl; have x1 := X.out.at (i := 1) rfl; have x2 := X.out.at (i := 2) rfl; have x3 := X.out.at (i := 3) rfl; have i1 := X.out.inside); ((try clear y0); (try clear y1); (try clear i2); have y0 := Y.out.two.1; have y1 := Y.out.two.2.1; have i2 := Y.out.inside))
      | (go_at_call 35; (with_reducible refine (HMI.out _).mono ?_); rintro e w6 ⟨rfl, b⟩; ((try replace X := Lib.hid (X.out.step (below_step (by (repeat (first | exact Below.refl _ _ | refine keep_alloc ?_ _ | refine Below.drew ?_))) b))); (try replace Y := Lib.hid (Y.out.step (below_step (by (repeat (first | exact Below.refl _ _ | refine keep_alloc ?_ _ | refine Below.drew ?_))) b))); (try replace E := Lib.hid (E.out.deep (below_step (by (repeat (first | exact Below.refl _ _ | refine keep_alloc ?_ _ | refine Below.drew ?_))) b))); (try replace CH := Lib.hid (CH.out.deep (below_step (by (repeat (first | exact Below.refl _ _ | refine keep_alloc ?_ _ | refine Below.drew ?_))) b))); (try replace S := Lib.hid (S.out.deep (below_step (by (repeat (first | exact Below.refl _ _ | refine keep_alloc ?_ _ | refine Below.drew ?_))) b))); (try replace LL := Lib.hid (LL.out.deep (below_step (by (repeat (first | exact Below.refl _ _ | refine keep_alloc ?_ _ | refine Below.drew ?_))) b))); (try replace YY := Lib.hid (YY.out.deep (below_step (by (repeat (first | exact Below.refl _ _ | refine keep_alloc ?_ _ | refine Below.drew ?_))) b))); (try replace BW := Lib.hid (below_step BW.out (below_step (by (repeat (first | exact Below.refl _ _ | refine keep_alloc ?_ _ | refine Below.drew ?_))) b))); clear b); ((try clear x0); (try clear x1); (try clear x2); (try clear x3); (try clear i1); have x0 := X.out.at (i := 0) rfl; have x1 := X.out.at (i := 1) rfl; have x2 := X.out.at (i := 2) rfl; have x3 := X.out.at (i := 3) rfl; have i1 := X.out.inside); ((try clear y0); (try clear y1); (try clear i2); have y0 := Y.out.two.1; have y1 := Y.out.two.2.1; have i2 := Y.out.inside))
      | (go_at_call 29; (with_reducible refine (HCK.out _ _ _ _ _ E.out CH.out).mono ?_); rintro e w7 ⟨rfl, b⟩; ((try replace X := Lib.hid (X.out.step (below_step (by (repeat (first | exact Below.refl _ _ | refine keep_alloc ?_ _ | refine Below.drew ?_))) b))); (try replace Y := Lib.hid (Y.out.step (below_step (by (repeat (first | exact Below.refl _ _ | refine keep_alloc ?_ _ | refine Below.drew ?_))) b))); (try replace E := Lib.hid (E.out.deep (below_step (by (repeat (first | exact Below.refl _ _ | refine keep_alloc ?_ _ | refine Below.drew ?_))) b))); (try replace CH := Lib.hid (CH.out.deep (below_step (by (repeat (first | exact Below.refl _ _ | refine keep_alloc ?_ _ | refine Below.drew ?_))) b))); (try replace S := Lib.hid (S.out.deep (below_step (by (repeat (first | exact Below.refl _ _ | refine keep_alloc ?_ _ | refine Below.drew ?_))) b))); (try replace LL := Lib.hid (LL.out.deep (below_step (by (repeat (first | exact Below.refl _ _ | refine keep_alloc ?_ _ | refine Below.drew ?_))) b))); (try replace YY := Lib.hid (YY.out.deep (below_step (by (repeat (first | exact Below.refl _ _ | refine keep_alloc ?_ _ | refine Below.drew ?_))) b))); (try replace BW := Lib.hid (below_step BW.out (below_step (by (repeat (first | exact Below.refl _ _ | refine keep_alloc ?_ _ | refine Below.drew ?_))) b))); clear b); ((try clear x0); (try clear x1); (try clear x2); (try clear x3); (try clear i1); have x0 := X.out.at (i := 0) rfl; have x1 := X.out.at (i := 1) rfl; have x2 := X.out.at (i := 2) rfl; have x3 := X.out.at (i := 3) rfl; have i1 := X.out.inside); ((try clear y0); (try clear y1); (try clear i2); have y0 := Y.out.two.1; have y1 := Y.out.two.2.1; have i2 := Y.out.inside)))
    have ck1 := fun W (b : Below w7.heap.size w7 W) => HCK.out _ cap (some ⟨gc, 0, none⟩) cc W (E.out.deep b) (CH.out.deep b)
    have CK1 := Lib.hid ck1
    clear ck1
    go_cut [14] (fun s14 W => s14 = .bool true ∧ Below w7.heap.size w7 W)
    case first =>
      have g0 := cell_regrown y0
      have g1 := cell_regrown y1
      clear y0 y1 x0 x1 x2 x3
      refine wp_region_quiet_below (by kernel_rfl) (by kernel_rfl) ?_
      repeat (go_big_quiet_step ((go_at_call 29; with_reducible exact Calls.regrown_of (CK1.out _ (below_regrown _ _ _)))))
      (refine wpQuiet_nil ?_; intro _ hw'; obtain ⟨⟨dq, osq⟩, hw''⟩ := hw'; subst hw'')
      go_wp2_with fail
      go_meet
      case rel => exact ⟨rfl, below_regrown _ _ _⟩
    case rest =>
      obtain ⟨rfl, hbw⟩ := hcut
      have b := hbw
      clear hbw y0 y1 x0 x1 x2 x3 i1 i2 CK1
      (replace X := Lib.hid (X.out.step b); replace Y := Lib.hid (Y.out.step b); replace E := Lib.hid (E.out.deep b); (try replace CH := Lib.hid (CH.out.deep b)); (try replace S := Lib.hid (S.out.deep b)); replace LL := Lib.hid (LL.out.deep b); replace YY := Lib.hid (YY.out.deep b); replace BW := Lib.hid (below_step BW.out b); clear b)
      ((try clear x0); (try clear x1); (try clear x2); (try clear x3); (try clear i1); have x0 := X.out.at (i := 0) rfl; have x1 := X.out.at (i := 1) rfl; have x2 := X.out.at (i := 2) rfl; have x3 := X.out.at (i := 3) rfl; have i1 := X.out.inside)
      ((try clear y0); (try clear y1); (try clear i2); have y0 := Y.out.two.1; have y1 := Y.out.two.2.1; have i2 := Y.out.inside)
      have kp : ∀ W, Below wc.heap.size wc W → (Below wc.heap.size wc W ∧ W.cell? ⟨w3.heap.size, 0, none⟩ = some (.int .i64 (n : Int)) ∧ W.cell? ⟨w3.heap.size, 1, none⟩ = some (.slice A K cap) ∧ W.cell? ⟨w.heap.size, 0, none⟩ = some (.int .i64 N) ∧ W.cell? ⟨w.heap.size, 1, none⟩ = some (.slice HA HL hc) ∧ W.cell? ⟨w.heap.size, 2, none⟩ = some (.slice BA L bc) ∧ W.cell? ⟨w.heap.size, 3, none⟩ = some (.int .i64 M)) := fun W b => ⟨b, (Y.out.step b).two.1, (Y.out.step b).two.2.1, (X.out.step b).at (i := 0) rfl, (X.out.step b).at (i := 1) rfl, (X.out.step b).at (i := 2) rfl, (X.out.step b).at (i := 3) rfl⟩
      have KP := Lib.hid kp
      clear kp x0 x1 x2 x3 y0 y1 i1 i2
      go_upto_region 11 with (fail)
      go_cut [88] (fun s88 W => s88 = .bool false ∧ Below wc.heap.size wc W)
      case first =>
        first
          | (go_region_held3 (fun W => (Below wc.heap.size wc W ∧ W.cell? ⟨w3.heap.size, 0, none⟩ = some (.int .i64 (n : Int)) ∧ W.cell? ⟨w3.heap.size, 1, none⟩ = some (.slice A K cap) ∧ W.cell? ⟨w.heap.size, 0, none⟩ = some (.int .i64 N) ∧ W.cell? ⟨w.heap.size, 1, none⟩ = some (.slice HA HL hc) ∧ W.cell? ⟨w.heap.size, 2, none⟩ = some (.slice BA L bc) ∧ W.cell? ⟨w.heap.size, 3, none⟩ = some (.int .i64 M)))
              (first | assumption | exact KP.out _ ((Below.refl _ _).drew) | exact KP.out _ (below_step (And.left (by assumption)) (by assumption)) | fail)
              (first
                | (go_at_call 11; (with_reducible refine (HSY.out _).mono ?_); rintro e w8 ⟨rfl, b8⟩)
                | (go_at_call 27; (with_reducible refine (HAY.out _ cap YA yc _ (E.out.deep (And.left (by assumption))) (YY.out.deep (And.left (by assumption)))).mono ?_); rintro e w9 ⟨rfl, b9⟩)
                | (go_at_call 26; (with_reducible refine (HHID.out _ (below_step BW.out (And.left (by assumption)))).mono ?_); rintro e w10 ⟨gh, hcap, rfl, r, b10⟩; have nh := own_intNums r; clear r)
                | (go_at_call 27; (with_reducible refine (HAH.out _ cap _ _ _ (E.out.deep (And.left (by assumption))) nh).mono ?_); rintro e w11 ⟨rfl, b11⟩)
                | fail))
          | fail
        all_goals go_wp2_with fail
        all_goals go_meet
        all_goals (case rel => exact ⟨rfl, And.left (by assumption)⟩)
      case rest =>
        obtain ⟨rfl, hbw⟩ := hcut
        have b := hbw
        clear hbw KP HAY HAH HHID HSH HSY HMI HSOL HCY HMAD HSAN
        (replace X := Lib.hid (X.out.step b); replace Y := Lib.hid (Y.out.step b); replace E := Lib.hid (E.out.deep b); (try replace CH := Lib.hid (CH.out.deep b)); (try replace S := Lib.hid (S.out.deep b)); replace LL := Lib.hid (LL.out.deep b); replace YY := Lib.hid (YY.out.deep b); replace BW := Lib.hid (below_step BW.out b); clear b)
        clear X LL YY
        ((try clear y0); (try clear y1); (try clear i2); have y0 := Y.out.two.1; have y1 := Y.out.two.2.1; have i2 := Y.out.inside)
        go_upto_region 19 with (go_at_call 13; (with_reducible refine (PQ.out _).mono ?_); rintro e wx ⟨rfl, hwx⟩; have hwx := hwx.symm; subst hwx)
        obtain ⟨wb, rfl⟩ : ∃ x, x = wc := ⟨_, rfl⟩
        have st : Nst wb ((wb.alloc (.cells #[.int .i64 (n : Int), .slice none 0 0] 28)).alloc (.cells #[.int .i64 (n : Int), .slice none 0 0] 28)) wb.heap.size n none 0 (selB bs []) none 0 (selB bs (c.take 0)) :=
          ⟨keep_alloc (below_alloc _ _) _, (Own1.new wb n (wb.heap.size + 2) wb.heap.size rfl).later _, Own1.new _ n (wb.heap.size + 2) (wb.heap.size + 1) (by simp), fun _ h => (by cases h), by simp⟩
        have ST := Lib.hid st
        clear st y0 y1 i2
        obtain ⟨i0, hi0, hz0, hz1, hz2⟩ := info_parts bnd_info
        go_loopg [18] cl (fun kx s18 wr => ∃ (i : Nat) (AF : Option Addr) (cF : Nat) (AV : Option Addr) (cV : Nat) (m : List Nat), s18 = .int .i64 (i : Int) ∧ i + kx = cl ∧ Nst wb wr wb.heap.size n AF cF (selB bs m) AV cV (selB bs (c.take i)) ∧ Hid ((∀ x ∈ m, x ∈ c) ∧ m.length + (if kk < i then 1 else 0) = i))
        case atStart => exact ⟨0, none, 0, none, 0, [], rfl, by omega, ST.out, Lib.hid ⟨by simp, by simp⟩⟩
        case round =>
          clear ST
          obtain ⟨i, AF, cF, AV, cV, m, rfl, hi', hns, HMm⟩ := hrel
          by_cases hil : i < cl
          · obtain ⟨j, ⟨b1, b2, b3⟩, hj, hjm, hjK, hbj⟩ := HAT.out i hil
            have bel := hns.bel
            have cj := nums_cell (CH.out.deep bel) (show (ints c)[i]? = some (j : Int) by unfold ints; rw [List.getElem?_map, hj]; rfl)
            obtain ⟨bb, o, hA, _, e0, e1, e2⟩ := (E.out.deep bel).at hbj
            subst hA
            dsimp only at e0 e1 e2
            have hV : (selB bs (c.take i)).length = i := by rw [selB_len, List.length_take, ← HCL.out]; omega
            have hVn : selB bs (c.take (i + 1)) = selB bs (c.take i) ++ [(b1, b2, b3)] := by rw [List.take_add_one, hj]; exact selB_snoc bs _ j _ hbj
            have hFn : selB bs (m ++ [j]) = selB bs m ++ [(b1, b2, b3)] := selB_snoc bs _ j _ hbj
            have hFl : (selB bs m).length ≤ 8 := by rw [selB_len]; have := HMm.out.2; omega
            obtain ⟨nF, hnF⟩ : ∃ nF, (selB bs m).length = nF := ⟨_, rfl⟩
            rw [hnF] at hFl
            have kp : ∀ W, Below wb.heap.size wb W → (Below wb.heap.size wb W ∧ W.cell? ⟨w3.heap.size, 0, none⟩ = some (.int .i64 (n : Int)) ∧ W.cell? ⟨w3.heap.size, 1, none⟩ = some (.slice (some ⟨bb, o, none⟩) K cap) ∧ W.cell? ⟨gc, i, none⟩ = some (.int .i64 (j : Int)) ∧ W.cell? ⟨bb, o + j * 3, none⟩ = some (.int .i64 b1) ∧ W.cell? ⟨bb, o + j * 3 + 1, none⟩ = some (.int .i64 b2) ∧ W.cell? ⟨bb, o + j * 3 + 2, none⟩ = some (.int .i64 b3)) := fun W b => by
              have b' := b
              obtain ⟨_, _, hA2, _, q0, q1, q2⟩ := (E.out.deep b').at hbj
              cases hA2
              exact ⟨b, (Y.out.step b').two.1, (Y.out.step b').two.2.1, nums_cell (CH.out.deep b') (show (ints c)[i]? = some (j : Int) by unfold ints; rw [List.getElem?_map, hj]; rfl), q0, q1, q2⟩
            have ic : (i : Int) < (cl : Int) := by omega
            have jK : (j : Int) < (K : Int) := by omega
            have NS := Lib.hid hns; have HV := Lib.hid hV; have HVN := Lib.hid hVn; have HFN := Lib.hid hFn; have HNF := Lib.hid hnF; have KP := Lib.hid kp
            have HJM := Lib.hid hjm
            clear hns hV hVn hFn hnF kp bel cj e0 e1 e2 hj hbj hjm
            go_upto_region 21 with (fail)
            go_cut [] (fun W => ∃ (A' : Option Addr) (c' : Nat), Nst wb W wb.heap.size n AF cF (selB bs m) A' c' (selB bs (c.take i) ++ [(b1, b2, b3)]))
            case first =>
              have nsd := NS.out.drew
              have nsl := Nst.later nsd (.cells #[.int .i64 b1, .int .i64 b2, .int .i64 b3] 30)
              have own1 := nsl.v.own
              have x5 := NS.out.v.row.two.2.1
              have x6 := nsl.v.row.two.2.1
              rw [HV.out] at own1 x5 x6
              have sz := NS.out.size
              have i8 : wb.heap.size < wr.heap.size := by omega
              have i9 : wb.heap.size + 1 < wr.heap.size := by omega
              have NSD := Lib.hid nsd; have NSL := Lib.hid nsl; have OWN1 := Lib.hid own1
              clear nsd nsl own1
              refine wp_region_held_drew (S := (fun W => (Below wb.heap.size wb W ∧ W.cell? ⟨w3.heap.size, 0, none⟩ = some (.int .i64 (n : Int)) ∧ W.cell? ⟨w3.heap.size, 1, none⟩ = some (.slice (some ⟨bb, o, none⟩) K cap) ∧ W.cell? ⟨gc, i, none⟩ = some (.int .i64 (j : Int)) ∧ W.cell? ⟨bb, o + j * 3, none⟩ = some (.int .i64 b1) ∧ W.cell? ⟨bb, o + j * 3 + 1, none⟩ = some (.int .i64 b2) ∧ W.cell? ⟨bb, o + j * 3 + 2, none⟩ = some (.int .i64 b3)))) (by kernel_rfl) ?_ (fun hHeld => ?_)
              · first | assumption | exact KP.out _ NSD.out.bel | exact KP.out _ NSL.out.bel | exact KP.out _ B9.out | exact KP.out _ N2.out.bel
              refine wpAnyH_take (i := 0) (oi := ⟨_, _, _, _, _, _⟩) (v := ?_) rfl (by kernel_rfl) (by kernel_rfl) (by kernel_rfl) (fun _ _ _ h => h) (Or.inl ⟨by rfl, ?_⟩) (by assumption) ?_
              rotate_left 1
              focus (intro w hSw; (try dsimp only at hSw); go_simp; (try with_reducible rfl))
              (try simp only [Act.put, List.setIfInBounds_toArray, List.set_cons_zero, List.set_cons_succ])
              refine wpAnyH_take (i := 2) (oi := ⟨_, _, _, _, _, _⟩) (v := ?_) rfl (by kernel_rfl) (by kernel_rfl) (by kernel_rfl) (fun _ _ _ h => h) (Or.inl ⟨by rfl, ?_⟩) (by assumption) ?_
              rotate_left 1
              focus (intro w hSw; (try dsimp only at hSw); go_simp; (try with_reducible rfl))
              (try simp only [Act.put, List.setIfInBounds_toArray, List.set_cons_zero, List.set_cons_succ])
              refine wpAnyH_take (i := 3) (oi := ⟨_, _, _, _, _, _⟩) (v := ?_) rfl (by kernel_rfl) (by kernel_rfl) (by kernel_rfl) (fun _ _ _ h => h) (Or.inl ⟨by rfl, ?_⟩) (by assumption) ?_
              rotate_left 1
              focus (intro w hSw; (try dsimp only at hSw); go_simp; (try with_reducible rfl))
              (try simp only [Act.put, List.setIfInBounds_toArray, List.set_cons_zero, List.set_cons_succ])
              refine wpAnyH_take (i := 4) (oi := ⟨_, _, _, _, _, _⟩) (v := ?_) rfl (by kernel_rfl) (by kernel_rfl) (by kernel_rfl) (fun _ _ _ h => h) (Or.inl ⟨by rfl, ?_⟩) (by assumption) ?_
              rotate_left 1
              focus (intro w hSw; (try dsimp only at hSw); go_simp; (try with_reducible rfl))
              (try simp only [Act.put, List.setIfInBounds_toArray, List.set_cons_zero, List.set_cons_succ])
              refine wpAnyH_take (i := 5) (oi := ⟨_, _, _, _, _, _⟩) (v := ?_) rfl (by kernel_rfl) (by kernel_rfl) (by kernel_rfl) (fun _ _ _ h => h) (Or.inl ⟨by rfl, ?_⟩) (by assumption) ?_
              rotate_left 1
              focus (intro w hSw; (try dsimp only at hSw); go_simp; (try with_reducible rfl))
              (try simp only [Act.put, List.setIfInBounds_toArray, List.set_cons_zero, List.set_cons_succ])
              refine wpAnyH_take (i := 6) (oi := ⟨_, _, _, _, _, _⟩) (v := ?_) rfl (by kernel_rfl) (by kernel_rfl) (by kernel_rfl) (fun _ _ _ h => h) (Or.inl ⟨by rfl, ?_⟩) (by assumption) ?_
              rotate_left 1
              focus (intro w hSw; (try dsimp only at hSw); go_simp; (try with_reducible rfl))
              (try simp only [Act.put, List.setIfInBounds_toArray, List.set_cons_zero, List.set_cons_succ])
              refine wpAnyH_take (i := 7) (oi := ⟨_, _, _, _, _, _⟩) (v := ?_) rfl (by kernel_rfl) (by kernel_rfl) (by kernel_rfl) (fun _ _ _ h => h) (Or.inl ⟨by rfl, ?_⟩) (by assumption) ?_
              rotate_left 1
              focus (intro w hSw; (try dsimp only at hSw); go_simp; (try with_reducible rfl))
              (try simp only [Act.put, List.setIfInBounds_toArray, List.set_cons_zero, List.set_cons_succ])
              refine wpAnyH_take (i := 8) (oi := ⟨_, _, _, _, _, _⟩) (v := ?_) rfl (by kernel_rfl) (by kernel_rfl) (by kernel_rfl) (fun _ _ _ h => h) (Or.inl ⟨by rfl, ?_⟩) (by assumption) ?_
              rotate_left 1
              focus (intro w hSw; (try dsimp only at hSw); go_simp; (try with_reducible rfl))
              (try simp only [Act.put, List.setIfInBounds_toArray, List.set_cons_zero, List.set_cons_succ])
              refine wpAnyH_take (i := 9) (oi := ⟨_, _, _, _, _, _⟩) (v := ?_) rfl (by kernel_rfl) (by kernel_rfl) (by kernel_rfl) (fun _ _ _ h => h) (Or.inl ⟨by rfl, ?_⟩) (by assumption) ?_
              rotate_left 1
              focus (intro w hSw; (try dsimp only at hSw); go_simp; (try with_reducible rfl))
              (try simp only [Act.put, List.setIfInBounds_toArray, List.set_cons_zero, List.set_cons_succ])
              refine wpAnyH_ready (rs := [1, 10]) (by kernel_rfl) (by simp) ?_
              refine AllReadyH.cons (o := ⟨_, _, _, _, _, _⟩) rfl (fun K hK => ?_) ?_
              · go_simp
                refine hK.out _ _ ?_ (fun hHeld => ?_)
                · first | assumption | exact KP.out _ NSD.out.bel | exact KP.out _ NSL.out.bel | exact KP.out _ B9.out | exact KP.out _ N2.out.bel
                clear hK K
                (try simp only [Act.put, List.setIfInBounds_toArray, List.set_cons_zero, List.set_cons_succ])
                refine wpAnyH_ready (rs := [10]) (by kernel_rfl) (by simp) ?_
                refine AllReadyH.cons (o := ⟨_, _, _, _, _, _⟩) rfl (fun K hK => ?_) ?_
                · go_simp
                  refine hK.out _ _ ?_ (fun hHeld => ?_)
                  · first | assumption | exact KP.out _ NSD.out.bel | exact KP.out _ NSL.out.bel | exact KP.out _ B9.out | exact KP.out _ N2.out.bel
                  clear hK K
                  (try simp only [Act.put, List.setIfInBounds_toArray, List.set_cons_zero, List.set_cons_succ])
                  refine wpAnyH_ready (rs := [11]) (by kernel_rfl) (by simp) ?_
                  refine AllReadyH.cons (o := ⟨_, _, _, _, _, _⟩) rfl (fun K hK => ?_) ?_
                  · refine step_append_lies _ rfl _ _ 26 rfl (wb.heap.size + 2) 30 i0 (.agg #[.int .i64 0, .int .i64 0, .int .i64 0]) 3 24 Try.underlying26 hi0 hz0 hz1 hz2 rfl (by decide) _ _ _ (by rfl) OWN1.out ⟨wr.heap.size, 0, none⟩ 1 1 [.int .i64 b1, .int .i64 b2, .int .i64 b3] (by rfl) rfl (three_new wr.drew _ _ _ _) (by intro u hu; simp only [List.mem_cons, List.not_mem_nil, or_false] at hu; rcases hu with rfl | rfl | rfl <;> rfl) (by decide) (by unfold maxLen; omega) (by omega) (by simp; omega) (wr.heap.size + 1) (by simp) ?_
                    intro g' cap2 w9 hown' hgrow hat hlt9
                    have nx := Nst.pushV (r := (b1, b2, b3)) NSL.out HV.out.symm hgrow hown' hat (by simp)
                    obtain ⟨n1, n2⟩ := nx
                    obtain ⟨_, _, n3, n4⟩ := n1.two
                    have N2 := Lib.hid n2
                    have B9 := Lib.hid (Nst.bel_grown NSL.out (.inr hgrow))
                    clear hown' hgrow n1 n2 hat hlt9
                    refine hK.out _ _ ?_ (fun hHeld => ?_)
                    · first | assumption | exact KP.out _ NSD.out.bel | exact KP.out _ NSL.out.bel | exact KP.out _ B9.out | exact KP.out _ N2.out.bel
                    clear hK K
                    (try simp only [Act.put, List.setIfInBounds_toArray, List.set_cons_zero, List.set_cons_succ])
                    refine wpAnyH_take (i := 12) (oi := ⟨_, _, _, _, _, _⟩) (v := ?_) rfl (by kernel_rfl) (by kernel_rfl) (by kernel_rfl) (fun _ _ _ h => h) (Or.inl ⟨by rfl, ?_⟩) (by assumption) ?_
                    rotate_left 1
                    focus (intro w hSw; (try dsimp only at hSw); go_simp; (try with_reducible rfl))
                    (try simp only [Act.put, List.setIfInBounds_toArray, List.set_cons_zero, List.set_cons_succ])
                    refine wpAnyH_ready (rs := [13]) (by kernel_rfl) (by simp) ?_
                    refine AllReadyH.cons (o := ⟨_, _, _, _, _, _⟩) rfl (fun K hK => ?_) ?_
                    · go_simp
                      refine hK.out _ _ ?_ (fun hHeld => ?_)
                      · first | assumption | exact KP.out _ NSD.out.bel | exact KP.out _ NSL.out.bel | exact KP.out _ B9.out | exact KP.out _ N2.out.bel
                      clear hK K
                      (try simp only [Act.put, List.setIfInBounds_toArray, List.set_cons_zero, List.set_cons_succ])
                      refine wpAnyH_done (by kernel_rfl) ?_ _
                      go_wp2_with fail
                      go_meet
                      case rel => exact ⟨_, _, N2.out⟩
                    exact AllReadyH.nil
                  exact AllReadyH.nil
                exact AllReadyH.nil
              refine AllReadyH.cons (o := ⟨_, _, _, _, _, _⟩) rfl (fun K hK => ?_) ?_
              · go_simp
                refine hK.out _ _ ?_ (fun hHeld => ?_)
                · first | assumption | exact KP.out _ NSD.out.bel | exact KP.out _ NSL.out.bel | exact KP.out _ B9.out | exact KP.out _ N2.out.bel
                clear hK K
                (try simp only [Act.put, List.setIfInBounds_toArray, List.set_cons_zero, List.set_cons_succ])
                refine wpAnyH_ready (rs := [1]) (by kernel_rfl) (by simp) ?_
                refine AllReadyH.cons (o := ⟨_, _, _, _, _, _⟩) rfl (fun K hK => ?_) ?_
                · go_simp
                  refine hK.out _ _ ?_ (fun hHeld => ?_)
                  · first | assumption | exact KP.out _ NSD.out.bel | exact KP.out _ NSL.out.bel | exact KP.out _ B9.out | exact KP.out _ N2.out.bel
                  clear hK K
                  (try simp only [Act.put, List.setIfInBounds_toArray, List.set_cons_zero, List.set_cons_succ])
                  refine wpAnyH_ready (rs := [11]) (by kernel_rfl) (by simp) ?_
                  refine AllReadyH.cons (o := ⟨_, _, _, _, _, _⟩) rfl (fun K hK => ?_) ?_
                  · refine step_append_lies _ rfl _ _ 26 rfl (wb.heap.size + 2) 30 i0 (.agg #[.int .i64 0, .int .i64 0, .int .i64 0]) 3 24 Try.underlying26 hi0 hz0 hz1 hz2 rfl (by decide) _ _ _ (by rfl) OWN1.out ⟨wr.heap.size, 0, none⟩ 1 1 [.int .i64 b1, .int .i64 b2, .int .i64 b3] (by rfl) rfl (three_new wr.drew _ _ _ _) (by intro u hu; simp only [List.mem_cons, List.not_mem_nil, or_false] at hu; rcases hu with rfl | rfl | rfl <;> rfl) (by decide) (by unfold maxLen; omega) (by omega) (by simp; omega) (wr.heap.size + 1) (by simp) ?_
                    intro g' cap2 w9 hown' hgrow hat hlt9
                    have nx := Nst.pushV (r := (b1, b2, b3)) NSL.out HV.out.symm hgrow hown' hat (by simp)
                    obtain ⟨n1, n2⟩ := nx
                    obtain ⟨_, _, n3, n4⟩ := n1.two
                    have N2 := Lib.hid n2
                    have B9 := Lib.hid (Nst.bel_grown NSL.out (.inr hgrow))
                    clear hown' hgrow n1 n2 hat hlt9
                    refine hK.out _ _ ?_ (fun hHeld => ?_)
                    · first | assumption | exact KP.out _ NSD.out.bel | exact KP.out _ NSL.out.bel | exact KP.out _ B9.out | exact KP.out _ N2.out.bel
                    clear hK K
                    (try simp only [Act.put, List.setIfInBounds_toArray, List.set_cons_zero, List.set_cons_succ])
                    refine wpAnyH_take (i := 12) (oi := ⟨_, _, _, _, _, _⟩) (v := ?_) rfl (by kernel_rfl) (by kernel_rfl) (by kernel_rfl) (fun _ _ _ h => h) (Or.inl ⟨by rfl, ?_⟩) (by assumption) ?_
                    rotate_left 1
                    focus (intro w hSw; (try dsimp only at hSw); go_simp; (try with_reducible rfl))
                    (try simp only [Act.put, List.setIfInBounds_toArray, List.set_cons_zero, List.set_cons_succ])
                    refine wpAnyH_ready (rs := [13]) (by kernel_rfl) (by simp) ?_
                    refine AllReadyH.cons (o := ⟨_, _, _, _, _, _⟩) rfl (fun K hK => ?_) ?_
                    · go_simp
                      refine hK.out _ _ ?_ (fun hHeld => ?_)
                      · first | assumption | exact KP.out _ NSD.out.bel | exact KP.out _ NSL.out.bel | exact KP.out _ B9.out | exact KP.out _ N2.out.bel
                      clear hK K
                      (try simp only [Act.put, List.setIfInBounds_toArray, List.set_cons_zero, List.set_cons_succ])
                      refine wpAnyH_done (by kernel_rfl) ?_ _
                      go_wp2_with fail
                      go_meet
                      case rel => exact ⟨_, _, N2.out⟩
                    exact AllReadyH.nil
                  exact AllReadyH.nil
                exact AllReadyH.nil
              exact AllReadyH.nil
            case rest =>
              obtain ⟨AV2, cV2, hns2⟩ := hcut
              have NS2 := Lib.hid hns2
              clear hns2
              by_cases hik : i = kk
              · have hne : ((i : Int) != (kk : Int)) = false := by simp [hik]
                have hmm : (∀ x ∈ m, x ∈ c) ∧ m.length + (if kk < i + 1 then 1 else 0) = i + 1 := by
                  obtain ⟨q1, q2⟩ := HMm.out
                  rw [if_neg (by omega)] at q2
                  exact ⟨q1, by rw [if_pos (by omega)]; omega⟩
                have HM2 := Lib.hid hmm
                clear hmm
                go_wp2
                go_roundg (cl - (i + 1))
                case measure => omega
                case rel => exact ⟨i + 1, _, _, _, _, m, by go_num, by omega, by rw [HVN.out]; exact NS2.out, HM2⟩
              · have hne : ((i : Int) != (kk : Int)) = true := by simp; omega
                have hmm : (∀ x ∈ m ++ [j], x ∈ c) ∧ (m ++ [j]).length + (if kk < i + 1 then 1 else 0) = i + 1 := by
                  obtain ⟨q1, q2⟩ := HMm.out
                  refine ⟨fun x hx => ?_, ?_⟩
                  · rcases List.mem_append.1 hx with h | h
                    · exact q1 x h
                    · rw [List.mem_singleton.1 h]; exact HJM.out
                  · rw [List.length_append, List.length_singleton]
                    split at q2 <;> split <;> omega
                have HM2 := Lib.hid hmm
                clear hmm
                go_upto_region 23 with (fail)
                have nsd := NS2.out.drew
                have nsl := Nst.later nsd (.cells #[.int .i64 b1, .int .i64 b2, .int .i64 b3] 30)
                have own1 := nsl.f.own
                have x5 := NS2.out.f.row.two.2.1
                have x6 := nsl.f.row.two.2.1
                rw [HNF.out] at own1 x5 x6
                have sz := NS2.out.size
                have i8 : wb.heap.size < wc.heap.size := by omega
                have i9 : wb.heap.size + 1 < wc.heap.size := by omega
                have NSD := Lib.hid nsd; have NSL := Lib.hid nsl; have OWN1 := Lib.hid own1
                clear nsd nsl own1
                refine wp_region_held_drew (S := (fun W => (Below wb.heap.size wb W ∧ W.cell? ⟨w3.heap.size, 0, none⟩ = some (.int .i64 (n : Int)) ∧ W.cell? ⟨w3.heap.size, 1, none⟩ = some (.slice (some ⟨bb, o, none⟩) K cap) ∧ W.cell? ⟨gc, i, none⟩ = some (.int .i64 (j : Int)) ∧ W.cell? ⟨bb, o + j * 3, none⟩ = some (.int .i64 b1) ∧ W.cell? ⟨bb, o + j * 3 + 1, none⟩ = some (.int .i64 b2) ∧ W.cell? ⟨bb, o + j * 3 + 2, none⟩ = some (.int .i64 b3)))) (by kernel_rfl) ?_ (fun hHeld => ?_)
                · first | assumption | exact KP.out _ NSD.out.bel | exact KP.out _ NSL.out.bel | exact KP.out _ B9.out | exact KP.out _ N2.out.bel
                refine wpAnyH_take (i := 0) (oi := ⟨_, _, _, _, _, _⟩) (v := ?_) rfl (by kernel_rfl) (by kernel_rfl) (by kernel_rfl) (fun _ _ _ h => h) (Or.inl ⟨by rfl, ?_⟩) (by assumption) ?_
                rotate_left 1
                focus (intro w hSw; (try dsimp only at hSw); go_simp; (try with_reducible rfl))
                (try simp only [Act.put, List.setIfInBounds_toArray, List.set_cons_zero, List.set_cons_succ])
                refine wpAnyH_take (i := 2) (oi := ⟨_, _, _, _, _, _⟩) (v := ?_) rfl (by kernel_rfl) (by kernel_rfl) (by kernel_rfl) (fun _ _ _ h => h) (Or.inl ⟨by rfl, ?_⟩) (by assumption) ?_
                rotate_left 1
                focus (intro w hSw; (try dsimp only at hSw); go_simp; (try with_reducible rfl))
                (try simp only [Act.put, List.setIfInBounds_toArray, List.set_cons_zero, List.set_cons_succ])
                refine wpAnyH_take (i := 3) (oi := ⟨_, _, _, _, _, _⟩) (v := ?_) rfl (by kernel_rfl) (by kernel_rfl) (by kernel_rfl) (fun _ _ _ h => h) (Or.inl ⟨by rfl, ?_⟩) (by assumption) ?_
                rotate_left 1
                focus (intro w hSw; (try dsimp only at hSw); go_simp; (try with_reducible rfl))
                (try simp only [Act.put, List.setIfInBounds_toArray, List.set_cons_zero, List.set_cons_succ])
                refine wpAnyH_take (i := 4) (oi := ⟨_, _, _, _, _, _⟩) (v := ?_) rfl (by kernel_rfl) (by kernel_rfl) (by kernel_rfl) (fun _ _ _ h => h) (Or.inl ⟨by rfl, ?_⟩) (by assumption) ?_
                rotate_left 1
                focus (intro w hSw; (try dsimp only at hSw); go_simp; (try with_reducible rfl))
                (try simp only [Act.put, List.setIfInBounds_toArray, List.set_cons_zero, List.set_cons_succ])
                refine wpAnyH_take (i := 5) (oi := ⟨_, _, _, _, _, _⟩) (v := ?_) rfl (by kernel_rfl) (by kernel_rfl) (by kernel_rfl) (fun _ _ _ h => h) (Or.inl ⟨by rfl, ?_⟩) (by assumption) ?_
                rotate_left 1
                focus (intro w hSw; (try dsimp only at hSw); go_simp; (try with_reducible rfl))
                (try simp only [Act.put, List.setIfInBounds_toArray, List.set_cons_zero, List.set_cons_succ])
                refine wpAnyH_take (i := 6) (oi := ⟨_, _, _, _, _, _⟩) (v := ?_) rfl (by kernel_rfl) (by kernel_rfl) (by kernel_rfl) (fun _ _ _ h => h) (Or.inl ⟨by rfl, ?_⟩) (by assumption) ?_
                rotate_left 1
                focus (intro w hSw; (try dsimp only at hSw); go_simp; (try with_reducible rfl))
                (try simp only [Act.put, List.setIfInBounds_toArray, List.set_cons_zero, List.set_cons_succ])
                refine wpAnyH_take (i := 7) (oi := ⟨_, _, _, _, _, _⟩) (v := ?_) rfl (by kernel_rfl) (by kernel_rfl) (by kernel_rfl) (fun _ _ _ h => h) (Or.inl ⟨by rfl, ?_⟩) (by assumption) ?_
                rotate_left 1
                focus (intro w hSw; (try dsimp only at hSw); go_simp; (try with_reducible rfl))
                (try simp only [Act.put, List.setIfInBounds_toArray, List.set_cons_zero, List.set_cons_succ])
                refine wpAnyH_take (i := 8) (oi := ⟨_, _, _, _, _, _⟩) (v := ?_) rfl (by kernel_rfl) (by kernel_rfl) (by kernel_rfl) (fun _ _ _ h => h) (Or.inl ⟨by rfl, ?_⟩) (by assumption) ?_
                rotate_left 1
                focus (intro w hSw; (try dsimp only at hSw); go_simp; (try with_reducible rfl))
                (try simp only [Act.put, List.setIfInBounds_toArray, List.set_cons_zero, List.set_cons_succ])
                refine wpAnyH_take (i := 9) (oi := ⟨_, _, _, _, _, _⟩) (v := ?_) rfl (by kernel_rfl) (by kernel_rfl) (by kernel_rfl) (fun _ _ _ h => h) (Or.inl ⟨by rfl, ?_⟩) (by assumption) ?_
                rotate_left 1
                focus (intro w hSw; (try dsimp only at hSw); go_simp; (try with_reducible rfl))
                (try simp only [Act.put, List.setIfInBounds_toArray, List.set_cons_zero, List.set_cons_succ])
                refine wpAnyH_ready (rs := [1, 10]) (by kernel_rfl) (by simp) ?_
                refine AllReadyH.cons (o := ⟨_, _, _, _, _, _⟩) rfl (fun K hK => ?_) ?_
                · go_simp
                  refine hK.out _ _ ?_ (fun hHeld => ?_)
                  · first | assumption | exact KP.out _ NSD.out.bel | exact KP.out _ NSL.out.bel | exact KP.out _ B9.out | exact KP.out _ N2.out.bel
                  clear hK K
                  (try simp only [Act.put, List.setIfInBounds_toArray, List.set_cons_zero, List.set_cons_succ])
                  refine wpAnyH_ready (rs := [10]) (by kernel_rfl) (by simp) ?_
                  refine AllReadyH.cons (o := ⟨_, _, _, _, _, _⟩) rfl (fun K hK => ?_) ?_
                  · go_simp
                    refine hK.out _ _ ?_ (fun hHeld => ?_)
                    · first | assumption | exact KP.out _ NSD.out.bel | exact KP.out _ NSL.out.bel | exact KP.out _ B9.out | exact KP.out _ N2.out.bel
                    clear hK K
                    (try simp only [Act.put, List.setIfInBounds_toArray, List.set_cons_zero, List.set_cons_succ])
                    refine wpAnyH_ready (rs := [11]) (by kernel_rfl) (by simp) ?_
                    refine AllReadyH.cons (o := ⟨_, _, _, _, _, _⟩) rfl (fun K hK => ?_) ?_
                    · refine step_append_lies _ rfl _ _ 26 rfl (wb.heap.size + 2) 30 i0 (.agg #[.int .i64 0, .int .i64 0, .int .i64 0]) 3 24 Try.underlying26 hi0 hz0 hz1 hz2 rfl (by decide) _ _ _ (by rfl) OWN1.out ⟨wc.heap.size, 0, none⟩ 1 1 [.int .i64 b1, .int .i64 b2, .int .i64 b3] (by rfl) rfl (three_new wc.drew _ _ _ _) (by intro u hu; simp only [List.mem_cons, List.not_mem_nil, or_false] at hu; rcases hu with rfl | rfl | rfl <;> rfl) (by decide) (by unfold maxLen; omega) (by omega) (by simp; omega) (wc.heap.size + 1) (by simp) ?_
                      intro g' cap2 w9 hown' hgrow hat hlt9
                      have nx := Nst.pushF (r := (b1, b2, b3)) NSL.out HNF.out.symm hgrow hown' hat (by simp)
                      obtain ⟨n1, n2⟩ := nx
                      obtain ⟨_, _, n3, n4⟩ := n1.two
                      have N2 := Lib.hid n2
                      have B9 := Lib.hid (Nst.bel_grown NSL.out (.inl hgrow))
                      clear hown' hgrow n1 n2 hat hlt9
                      refine hK.out _ _ ?_ (fun hHeld => ?_)
                      · first | assumption | exact KP.out _ NSD.out.bel | exact KP.out _ NSL.out.bel | exact KP.out _ B9.out | exact KP.out _ N2.out.bel
                      clear hK K
                      (try simp only [Act.put, List.setIfInBounds_toArray, List.set_cons_zero, List.set_cons_succ])
                      refine wpAnyH_take (i := 12) (oi := ⟨_, _, _, _, _, _⟩) (v := ?_) rfl (by kernel_rfl) (by kernel_rfl) (by kernel_rfl) (fun _ _ _ h => h) (Or.inl ⟨by rfl, ?_⟩) (by assumption) ?_
                      rotate_left 1
                      focus (intro w hSw; (try dsimp only at hSw); go_simp; (try with_reducible rfl))
                      (try simp only [Act.put, List.setIfInBounds_toArray, List.set_cons_zero, List.set_cons_succ])
                      refine wpAnyH_ready (rs := [13]) (by kernel_rfl) (by simp) ?_
                      refine AllReadyH.cons (o := ⟨_, _, _, _, _, _⟩) rfl (fun K hK => ?_) ?_
                      · go_simp
                        refine hK.out _ _ ?_ (fun hHeld => ?_)
                        · first | assumption | exact KP.out _ NSD.out.bel | exact KP.out _ NSL.out.bel | exact KP.out _ B9.out | exact KP.out _ N2.out.bel
                        clear hK K
                        (try simp only [Act.put, List.setIfInBounds_toArray, List.set_cons_zero, List.set_cons_succ])
                        refine wpAnyH_done (by kernel_rfl) ?_ _
                        go_wp2_with fail
                        go_roundg (cl - (i + 1))
                        case measure => omega
                        case rel => exact ⟨i + 1, _, _, _, _, m ++ [j], by go_num, by omega, by rw [HVN.out, HFN.out]; exact N2.out, HM2⟩
                      exact AllReadyH.nil
                    exact AllReadyH.nil
                  exact AllReadyH.nil
                refine AllReadyH.cons (o := ⟨_, _, _, _, _, _⟩) rfl (fun K hK => ?_) ?_
                · go_simp
                  refine hK.out _ _ ?_ (fun hHeld => ?_)
                  · first | assumption | exact KP.out _ NSD.out.bel | exact KP.out _ NSL.out.bel | exact KP.out _ B9.out | exact KP.out _ N2.out.bel
                  clear hK K
                  (try simp only [Act.put, List.setIfInBounds_toArray, List.set_cons_zero, List.set_cons_succ])
                  refine wpAnyH_ready (rs := [1]) (by kernel_rfl) (by simp) ?_
                  refine AllReadyH.cons (o := ⟨_, _, _, _, _, _⟩) rfl (fun K hK => ?_) ?_
                  · go_simp
                    refine hK.out _ _ ?_ (fun hHeld => ?_)
                    · first | assumption | exact KP.out _ NSD.out.bel | exact KP.out _ NSL.out.bel | exact KP.out _ B9.out | exact KP.out _ N2.out.bel
                    clear hK K
                    (try simp only [Act.put, List.setIfInBounds_toArray, List.set_cons_zero, List.set_cons_succ])
                    refine wpAnyH_ready (rs := [11]) (by kernel_rfl) (by simp) ?_
                    refine AllReadyH.cons (o := ⟨_, _, _, _, _, _⟩) rfl (fun K hK => ?_) ?_
                    · refine step_append_lies _ rfl _ _ 26 rfl (wb.heap.size + 2) 30 i0 (.agg #[.int .i64 0, .int .i64 0, .int .i64 0]) 3 24 Try.underlying26 hi0 hz0 hz1 hz2 rfl (by decide) _ _ _ (by rfl) OWN1.out ⟨wc.heap.size, 0, none⟩ 1 1 [.int .i64 b1, .int .i64 b2, .int .i64 b3] (by rfl) rfl (three_new wc.drew _ _ _ _) (by intro u hu; simp only [List.mem_cons, List.not_mem_nil, or_false] at hu; rcases hu with rfl | rfl | rfl <;> rfl) (by decide) (by unfold maxLen; omega) (by omega) (by simp; omega) (wc.heap.size + 1) (by simp) ?_
                      intro g' cap2 w9 hown' hgrow hat hlt9
                      have nx := Nst.pushF (r := (b1, b2, b3)) NSL.out HNF.out.symm hgrow hown' hat (by simp)
                      obtain ⟨n1, n2⟩ := nx
                      obtain ⟨_, _, n3, n4⟩ := n1.two
                      have N2 := Lib.hid n2
                      have B9 := Lib.hid (Nst.bel_grown NSL.out (.inl hgrow))
                      clear hown' hgrow n1 n2 hat hlt9
                      refine hK.out _ _ ?_ (fun hHeld => ?_)
                      · first | assumption | exact KP.out _ NSD.out.bel | exact KP.out _ NSL.out.bel | exact KP.out _ B9.out | exact KP.out _ N2.out.bel
                      clear hK K
                      (try simp only [Act.put, List.setIfInBounds_toArray, List.set_cons_zero, List.set_cons_succ])
                      refine wpAnyH_take (i := 12) (oi := ⟨_, _, _, _, _, _⟩) (v := ?_) rfl (by kernel_rfl) (by kernel_rfl) (by kernel_rfl) (fun _ _ _ h => h) (Or.inl ⟨by rfl, ?_⟩) (by assumption) ?_
                      rotate_left 1
                      focus (intro w hSw; (try dsimp only at hSw); go_simp; (try with_reducible rfl))
                      (try simp only [Act.put, List.setIfInBounds_toArray, List.set_cons_zero, List.set_cons_succ])
                      refine wpAnyH_ready (rs := [13]) (by kernel_rfl) (by simp) ?_
                      refine AllReadyH.cons (o := ⟨_, _, _, _, _, _⟩) rfl (fun K hK => ?_) ?_
                      · go_simp
                        refine hK.out _ _ ?_ (fun hHeld => ?_)
                        · first | assumption | exact KP.out _ NSD.out.bel | exact KP.out _ NSL.out.bel | exact KP.out _ B9.out | exact KP.out _ N2.out.bel
                        clear hK K
                        (try simp only [Act.put, List.setIfInBounds_toArray, List.set_cons_zero, List.set_cons_succ])
                        refine wpAnyH_done (by kernel_rfl) ?_ _
                        go_wp2_with fail
                        go_roundg (cl - (i + 1))
                        case measure => omega
                        case rel => exact ⟨i + 1, _, _, _, _, m ++ [j], by go_num, by omega, by rw [HVN.out, HFN.out]; exact N2.out, HM2⟩
                      exact AllReadyH.nil
                    exact AllReadyH.nil
                  exact AllReadyH.nil
                exact AllReadyH.nil
          · obtain rfl : i = cl := by omega
            have hV : selB bs (c.take i) = selB bs c := by rw [List.take_of_length_le (by rw [← HCL.out]; exact Nat.le_refl _)]
            rw [hV] at hns
            have hm1 : m.length + 1 = i := by
              have := HMm.out.2
              rw [if_pos (by omega)] at this
              omega
            have hless := HLESS.out m HMm.out.1 hm1
            have halls := HALLS.out
            obtain ⟨nF, hnF⟩ : ∃ nF, nF = (selB bs m).length := ⟨_, rfl⟩
            obtain ⟨nV, hnV⟩ : ∃ nV, nV = (selB bs c).length := ⟨_, rfl⟩
            have hl2 := fun A cp W r => hless A cp W r nF hnF
            have ha2 := fun A cp W r => halls A cp W r nV hnV
            obtain ⟨z0, z1, _, _⟩ := hns.f.row.two
            have F1 := Lib.hid hns.f; have V1 := Lib.hid hns.v; have HL2 := Lib.hid hl2; have HA2 := Lib.hid ha2; have BEL := Lib.hid (below_step BW.out hns.bel); have HNV := Lib.hid hnV
            rw [← hnF] at z1
            have ii : ¬ (i : Int) < (i : Int) := by omega
            clear hless halls hl2 ha2 hns hnF hnV hV hm1 HLESS HALLS HAT HCL HMm
            go_wp2_with (first
              | (go_at_call 18; (with_reducible refine (HL2.out _ _ _ F1.out.rds).mono ?_); rintro e w12 ⟨v12, rfl, b⟩; have vv := V1.out.over b; have vr := vv.row.two; obtain ⟨z2, z3, _, _⟩ := vr; rw [← HNV.out] at z3; have V2 := Lib.hid vv; have BE2 := Lib.hid (below_step BEL.out b); clear vv b)
              | (go_at_call 18; (with_reducible refine (HA2.out _ _ _ V2.out.rds).mono ?_); rintro e w13 ⟨rfl, b⟩; have BE3 := Lib.hid (below_step BE2.out b); clear b))
            go_ret
            exact ⟨rfl, BE3.out⟩
end Go.Proofs.Ytkeimfkaoianmaa
