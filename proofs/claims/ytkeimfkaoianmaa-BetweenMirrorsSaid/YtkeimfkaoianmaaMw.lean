/- BetweenMirrors: its walk. -/
import Derived.Test.YtkeimfkaoianmaaMr
import Derived.Test.YtkeimfkaoianmaaSol
import Derived.Lib.QuietBelow
import Derived.BigQuiet
namespace Go.Proofs.Ytkeimfkaoianmaa
open Go.RowKit

set_option maxRecDepth 100000 in
set_option maxHeartbeats 8000000 in
theorem mirror_walk (N : Int) (H : List Int) (HA : Option Addr) (hc : Nat) (BL : List Bn) (BA : Option Addr) (bc : Nat) (M by_ : Int) (y : List Int) (YA : Option Addr) (yc : Nat) (hN : In64 N) (hH : ∀ x ∈ H, In64 x) (hHl : H.length ≤ 9223372036854775807)
    (hB : ∀ r ∈ BL, In64 r.1 ∧ In64 r.2.1 ∧ In64 r.2.2) (hBl : BL.length ≤ 9223372036854775807) (hM : In64 M) (h0 : In64 by_) (hy : ∀ a ∈ y, In64 a) (hyl : y.length ≤ 9223372036854775807) (w : World) (hr : Nums w w.heap.size HA H) (hb : Rds w w.heap.size BA BL) (hyy : Nums w w.heap.size YA y) :
    Calls Try.prog 9 #[nmV N HA H.length hc BA BL.length bc M, .slice YA y.length yc, .int .i64 by_] w fun e w' => e = .returned (.bool true) ∧ Below w.heap.size w w' := by
  have hsan := sane_any
  have hmad := fun W (b : Below w.heap.size w W) => made_any N H HA hc BL BA bc M hN hH hHl hB hBl hM W (hr.deep b) (hb.deep b)
  have hhid := fun W (b : Below w.heap.size w W) => hidden_any N H HA hc BA BL.length bc M hN hH hHl W (hr.deep b)
  have hbs := made_okb N H BL M
  have hva := made_valid N H BL M
  have hlen := hidL_len N H
  have hbd := hidL_all N H
  have hn := hidN_bd N
  have hK := madeL_len N H BL M
  generalize hidN N = n at *
  generalize hidL N H = hh at *
  generalize madeL N H BL M = bs at *
  have pq := fun W => pick_any by_ 1000000 h0.1 h0.2 (by omega) (by omega) W
  have rq := pk_range (c := by_) (n := 1000000) (by omega)
  generalize pk by_ 1000000 = z at *
  have hal := fun hl (h1 : hl.length = n) h2 => mirror_allowed hbs hva hn hK (hl := hl) h1 h2 (d := z - 500000) ⟨by omega, by omega⟩
  have hcy := mirror_yes hbs hn hK
  have hcn := mirror_no hbs hn hK
  obtain ⟨K, hK'⟩ : ∃ K, K = bs.length := ⟨_, rfl⟩
  have hpy := fun (i : Nat) (a : Int) (hi : y[i]? = some a) (W : World) => pick_any a 21 (hy a (List.mem_of_getElem? hi)).1 (hy a (List.mem_of_getElem? hi)).2 (by omega) (by omega) W
  rw [← hK'] at hmad hK
  simp only [← hK'] at hal hcy hcn
  obtain ⟨yL, hyL⟩ : ∃ yL, yL = y.length := ⟨_, rfl⟩
  rw [← hyL] at hyl ⊢
  unfold nmV btw at *
  have HSAN := Lib.hid hsan; have HMAD := Lib.hid hmad; have HHID := Lib.hid hhid; have HLEN := Lib.hid hlen; have HBD := Lib.hid hbd; have HAL := Lib.hid hal; have HCY := Lib.hid hcy; have HCN := Lib.hid hcn; have PQ := Lib.hid pq; have HPY := Lib.hid hpy; have HKK := Lib.hid hK'; have HYL := Lib.hid hyL
  clear hsan hmad hhid hlen hbd hal hcy hcn pq hpy hbs hva hB hBl hN hH hHl hr hb h0 hy hM hK' hyL
  obtain ⟨n1, n8⟩ := hn
  generalize H.length = HL at *
  generalize BL.length = L at *
  have X : Hid (Row (w.alloc (.cells #[.int .i64 N, .slice HA HL hc, .slice BA L bc, .int .i64 M] 25)) w.heap.size 25 #[.int .i64 N, .slice HA HL hc, .slice BA L bc, .int .i64 M]) := Lib.hid (Row.made _ _ _)
  have BW : Hid (Below w.heap.size w (w.alloc (.cells #[.int .i64 N, .slice HA HL hc, .slice BA L bc, .int .i64 M] 25))) := Lib.hid (below_alloc _ _)
  have YY := Lib.hid (hyy.deep BW.out)
  clear hyy
  go_enter Try.func9, Try.ntmps9
  go_upto_region 4 with (first
    | (go_at_call 10; (with_reducible refine (HSAN.out _).mono ?_); rintro e w1 ⟨rfl, b⟩; ((try replace X := Lib.hid (X.out.step (below_step (by (repeat (first | exact Below.refl _ _ | refine keep_alloc ?_ _ | refine Below.drew ?_))) b))); (try replace Y := Lib.hid (Y.out.step (below_step (by (repeat (first | exact Below.refl _ _ | refine keep_alloc ?_ _ | refine Below.drew ?_))) b))); (try replace E := Lib.hid (E.out.deep (below_step (by (repeat (first | exact Below.refl _ _ | refine keep_alloc ?_ _ | refine Below.drew ?_))) b))); (try replace CH := Lib.hid (CH.out.deep (below_step (by (repeat (first | exact Below.refl _ _ | refine keep_alloc ?_ _ | refine Below.drew ?_))) b))); (try replace S := Lib.hid (S.out.deep (below_step (by (repeat (first | exact Below.refl _ _ | refine keep_alloc ?_ _ | refine Below.drew ?_))) b))); (try replace LL := Lib.hid (LL.out.deep (below_step (by (repeat (first | exact Below.refl _ _ | refine keep_alloc ?_ _ | refine Below.drew ?_))) b))); (try replace YY := Lib.hid (YY.out.deep (below_step (by (repeat (first | exact Below.refl _ _ | refine keep_alloc ?_ _ | refine Below.drew ?_))) b))); (try replace BW := Lib.hid (below_step BW.out (below_step (by (repeat (first | exact Below.refl _ _ | refine keep_alloc ?_ _ | refine Below.drew ?_))) b))); clear b); ((try clear x0); (try clear x1); (try clear x2); (try clear x3); (try clear i1); have x0 := X.out.at (i := 0) rfl; have x1 := X.out.at (i := 1) rfl; have x2 := X.out.at (i := 2) rfl; have x3 := X.out.at (i := 3) rfl; have i1 := X.out.inside))
    | (go_at_call 12; (with_reducible refine (HMAD.out _ BW.out).mono ?_); rintro e w3 ⟨A, cap, rfl, r, b⟩; ((try replace X := Lib.hid (X.out.step (below_step (by (repeat (first | exact Below.refl _ _ | refine keep_alloc ?_ _ | refine Below.drew ?_))) b))); (try replace Y := Lib.hid (Y.out.step (below_step (by (repeat (first | exact Below.refl _ _ | refine keep_alloc ?_ _ | refine Below.drew ?_))) b))); (try replace E := Lib.hid (E.out.deep (below_step (by (repeat (first | exact Below.refl _ _ | refine keep_alloc ?_ _ | refine Below.drew ?_))) b))); (try replace CH := Lib.hid (CH.out.deep (below_step (by (repeat (first | exact Below.refl _ _ | refine keep_alloc ?_ _ | refine Below.drew ?_))) b))); (try replace S := Lib.hid (S.out.deep (below_step (by (repeat (first | exact Below.refl _ _ | refine keep_alloc ?_ _ | refine Below.drew ?_))) b))); (try replace LL := Lib.hid (LL.out.deep (below_step (by (repeat (first | exact Below.refl _ _ | refine keep_alloc ?_ _ | refine Below.drew ?_))) b))); (try replace YY := Lib.hid (YY.out.deep (below_step (by (repeat (first | exact Below.refl _ _ | refine keep_alloc ?_ _ | refine Below.drew ?_))) b))); (try replace BW := Lib.hid (below_step BW.out (below_step (by (repeat (first | exact Below.refl _ _ | refine keep_alloc ?_ _ | refine Below.drew ?_))) b))); clear b); have E := Lib.hid (r.deep (below_alloc _ (.cells #[.int .i64 (n : Int), .slice A K cap] 28))); clear r; have Y := Lib.hid (Row.made w3 28 #[.int .i64 (n : Int), .slice A K cap]); replace YY := Lib.hid (YY.out.deep (below_alloc _ (.cells #[.int .i64 (n : Int), .slice A K cap] 28))); replace X := Lib.hid (X.out.step (below_alloc _ (.cells #[.int .i64 (n : Int), .slice A K cap] 28))); replace BW := Lib.hid (keep_alloc BW.out (.cells #[.int .i64 (n : Int), .slice A K cap] 28))))
  clear x0 x1 x2 x3 i1
  obtain ⟨W5, hW5⟩ : ∃ W5, W5 = w3.alloc (.cells #[.int .i64 (n : Int), .slice A K cap] 28) := ⟨_, rfl⟩
  rw [← hW5] at E Y YY X BW ⊢
  clear hW5
  ((try clear y0); (try clear y1); (try clear i2); have y0 := Y.out.two.1; have y1 := Y.out.two.2.1; have i2 := Y.out.inside)
  go_upto_region 6 with (fail)
  have st : Mir W5 (W5.alloc (.cells #[.int .i64 (n : Int), .slice none 0 0] 28)) W5.heap.size n none 0 ((bs.take 0).map trn) := ⟨below_alloc _ _, Own1.new W5 n (W5.heap.size + 1) W5.heap.size rfl, by simp⟩
  have ST := Lib.hid st
  clear st y0 y1 i2
  obtain ⟨i0, hi0, hz0, hz1, hz2⟩ := info_parts bnd_info
  go_loopg [9] K (fun kx s9 wr => ∃ (i : Nat) (AF : Option Addr) (cF : Nat), s9 = .int .i64 (i : Int) ∧ i + kx = K ∧ Mir W5 wr W5.heap.size n AF cF ((bs.take i).map trn))
  case atStart => exact ⟨0, none, 0, rfl, by omega, ST.out⟩
  case round =>
    clear ST
    obtain ⟨i, AF, cF, rfl, hi', hns⟩ := hrel
    have y1 := (Y.out.step hns.bel).two.2.1
    by_cases hil : i < K
    · obtain ⟨⟨b1, b2, b3⟩, hbi⟩ : ∃ b, bs[i]? = some b := at_lt (by rw [← HKK.out]; exact hil)
      have bel := hns.bel
      obtain ⟨bb, o, hA, _, e0, e1, e2⟩ := (E.out.deep bel).at hbi
      subst hA
      dsimp only at e0 e1 e2
      have hV : ((bs.take i).map trn).length = i := by rw [List.length_map, List.length_take, ← HKK.out]; omega
      have hVn : (bs.take (i + 1)).map trn = (bs.take i).map trn ++ [(b2, b1, b3)] := by rw [List.take_add_one, hbi, List.map_append]; rfl
      have kp : ∀ W, Below W5.heap.size W5 W → (Below W5.heap.size W5 W ∧ W.cell? ⟨w3.heap.size, 0, none⟩ = some (.int .i64 (n : Int)) ∧ W.cell? ⟨w3.heap.size, 1, none⟩ = some (.slice (some ⟨bb, o, none⟩) K cap) ∧ W.cell? ⟨bb, o + i * 3, none⟩ = some (.int .i64 b1) ∧ W.cell? ⟨bb, o + i * 3 + 1, none⟩ = some (.int .i64 b2) ∧ W.cell? ⟨bb, o + i * 3 + 2, none⟩ = some (.int .i64 b3)) := fun W b => by
        obtain ⟨_, _, hA2, _, q0, q1, q2⟩ := (E.out.deep b).at hbi
        cases hA2
        exact ⟨b, (Y.out.step b).two.1, (Y.out.step b).two.2.1, q0, q1, q2⟩
      have iK : (i : Int) < (K : Int) := by omega
      have NS := Lib.hid hns; have HV := Lib.hid hV; have HVN := Lib.hid hVn; have KP := Lib.hid kp
      clear hns hV hVn kp bel e0 e1 e2 hbi
      go_upto_region 8 with (fail)
      have nsd := NS.out.drew
      have nsl := nsd.later (.cells #[.int .i64 b2, .int .i64 b1, .int .i64 b3] 30)
      have own1 := nsl.f.own
      have x5 := NS.out.f.row.two.2.1
      have x6 := nsl.f.row.two.2.1
      rw [HV.out] at own1 x5 x6
      have sz := NS.out.size
      have i8 : W5.heap.size < wr.heap.size := by omega
      have NSD := Lib.hid nsd; have NSL := Lib.hid nsl; have OWN1 := Lib.hid own1
      clear nsd nsl own1 y1
      refine wp_region_held_drew (S := (fun W => (Below W5.heap.size W5 W ∧ W.cell? ⟨w3.heap.size, 0, none⟩ = some (.int .i64 (n : Int)) ∧ W.cell? ⟨w3.heap.size, 1, none⟩ = some (.slice (some ⟨bb, o, none⟩) K cap) ∧ W.cell? ⟨bb, o + i * 3, none⟩ = some (.int .i64 b1) ∧ W.cell? ⟨bb, o + i * 3 + 1, none⟩ = some (.int .i64 b2) ∧ W.cell? ⟨bb, o + i * 3 + 2, none⟩ = some (.int .i64 b3)))) (by kernel_rfl) ?_ (fun hHeld => ?_)
      · first | assumption | exact KP.out _ NSD.out.bel | exact KP.out _ NSL.out.bel | exact KP.out _ B9.out | exact KP.out _ N2.out.bel
      refine wpAnyH_take (i := 0) (oi := ⟨_, _, _, _, _, _⟩) (v := ?_) rfl (by kernel_rfl) (by kernel_rfl) (by kernel_rfl) (fun _ _ _ h => h) (Or.inl ⟨by rfl, ?_⟩) (by assumption) ?_
      rotate_left 1
      focus (intro w hSw; (try dsimp only at hSw); go_simp; (try with_reducible rfl))
      (try simp only [Act.put, List.setIfInBounds_toArray, List.set_cons_zero, List.set_cons_succ])
      refine wpAnyH_take (i := 2) (oi := ⟨_, _, _, _, _, _⟩) (v := ?_) rfl (by kernel_rfl) (by kernel_rfl) (by kernel_rfl) (fun _ _ _ h => h) (Or.inl ⟨by rfl, ?_⟩) (by assumption) ?_
      rotate_left 1
      focus (intro w hSw; (try dsimp only at hSw); go_simp; (try with_reducible rfl))
      (try simp only [Act.put, List.setIfInBounds_toArray, List.set_cons_zero, List.set_cons_succ])
      refine wpAnyH_take (i := 3) (oi := ⟨_, _, _, _, _, _⟩) (v := ?_) rfl (by kernel_rfl) (by kernel_rfl) (by kernel_rfl) (fun _ _ _ h => h) (Or.inl ⟨by rfl, ?_⟩) (by assumption) ?_
      rotate_left 1
      focus (intro w hSw; (try dsimp only at hSw); go_simp; (try with_reducible rfl))
      (try simp only [Act.put, List.setIfInBounds_toArray, List.set_cons_zero, List.set_cons_succ])
      refine wpAnyH_take (i := 4) (oi := ⟨_, _, _, _, _, _⟩) (v := ?_) rfl (by kernel_rfl) (by kernel_rfl) (by kernel_rfl) (fun _ _ _ h => h) (Or.inl ⟨by rfl, ?_⟩) (by assumption) ?_
      rotate_left 1
      focus (intro w hSw; (try dsimp only at hSw); go_simp; (try with_reducible rfl))
      (try simp only [Act.put, List.setIfInBounds_toArray, List.set_cons_zero, List.set_cons_succ])
      refine wpAnyH_take (i := 5) (oi := ⟨_, _, _, _, _, _⟩) (v := ?_) rfl (by kernel_rfl) (by kernel_rfl) (by kernel_rfl) (fun _ _ _ h => h) (Or.inl ⟨by rfl, ?_⟩) (by assumption) ?_
      rotate_left 1
      focus (intro w hSw; (try dsimp only at hSw); go_simp; (try with_reducible rfl))
      (try simp only [Act.put, List.setIfInBounds_toArray, List.set_cons_zero, List.set_cons_succ])
      refine wpAnyH_take (i := 6) (oi := ⟨_, _, _, _, _, _⟩) (v := ?_) rfl (by kernel_rfl) (by kernel_rfl) (by kernel_rfl) (fun _ _ _ h => h) (Or.inl ⟨by rfl, ?_⟩) (by assumption) ?_
      rotate_left 1
      focus (intro w hSw; (try dsimp only at hSw); go_simp; (try with_reducible rfl))
      (try simp only [Act.put, List.setIfInBounds_toArray, List.set_cons_zero, List.set_cons_succ])
      refine wpAnyH_take (i := 7) (oi := ⟨_, _, _, _, _, _⟩) (v := ?_) rfl (by kernel_rfl) (by kernel_rfl) (by kernel_rfl) (fun _ _ _ h => h) (Or.inl ⟨by rfl, ?_⟩) (by assumption) ?_
      rotate_left 1
      focus (intro w hSw; (try dsimp only at hSw); go_simp; (try with_reducible rfl))
      (try simp only [Act.put, List.setIfInBounds_toArray, List.set_cons_zero, List.set_cons_succ])
      refine wpAnyH_take (i := 8) (oi := ⟨_, _, _, _, _, _⟩) (v := ?_) rfl (by kernel_rfl) (by kernel_rfl) (by kernel_rfl) (fun _ _ _ h => h) (Or.inl ⟨by rfl, ?_⟩) (by assumption) ?_
      rotate_left 1
      focus (intro w hSw; (try dsimp only at hSw); go_simp; (try with_reducible rfl))
      (try simp only [Act.put, List.setIfInBounds_toArray, List.set_cons_zero, List.set_cons_succ])
      refine wpAnyH_take (i := 9) (oi := ⟨_, _, _, _, _, _⟩) (v := ?_) rfl (by kernel_rfl) (by kernel_rfl) (by kernel_rfl) (fun _ _ _ h => h) (Or.inl ⟨by rfl, ?_⟩) (by assumption) ?_
      rotate_left 1
      focus (intro w hSw; (try dsimp only at hSw); go_simp; (try with_reducible rfl))
      (try simp only [Act.put, List.setIfInBounds_toArray, List.set_cons_zero, List.set_cons_succ])
      refine wpAnyH_take (i := 10) (oi := ⟨_, _, _, _, _, _⟩) (v := ?_) rfl (by kernel_rfl) (by kernel_rfl) (by kernel_rfl) (fun _ _ _ h => h) (Or.inl ⟨by rfl, ?_⟩) (by assumption) ?_
      rotate_left 1
      focus (intro w hSw; (try dsimp only at hSw); go_simp; (try with_reducible rfl))
      (try simp only [Act.put, List.setIfInBounds_toArray, List.set_cons_zero, List.set_cons_succ])
      refine wpAnyH_take (i := 11) (oi := ⟨_, _, _, _, _, _⟩) (v := ?_) rfl (by kernel_rfl) (by kernel_rfl) (by kernel_rfl) (fun _ _ _ h => h) (Or.inl ⟨by rfl, ?_⟩) (by assumption) ?_
      rotate_left 1
      focus (intro w hSw; (try dsimp only at hSw); go_simp; (try with_reducible rfl))
      (try simp only [Act.put, List.setIfInBounds_toArray, List.set_cons_zero, List.set_cons_succ])
      refine wpAnyH_take (i := 12) (oi := ⟨_, _, _, _, _, _⟩) (v := ?_) rfl (by kernel_rfl) (by kernel_rfl) (by kernel_rfl) (fun _ _ _ h => h) (Or.inl ⟨by rfl, ?_⟩) (by assumption) ?_
      rotate_left 1
      focus (intro w hSw; (try dsimp only at hSw); go_simp; (try with_reducible rfl))
      (try simp only [Act.put, List.setIfInBounds_toArray, List.set_cons_zero, List.set_cons_succ])
      refine wpAnyH_take (i := 13) (oi := ⟨_, _, _, _, _, _⟩) (v := ?_) rfl (by kernel_rfl) (by kernel_rfl) (by kernel_rfl) (fun _ _ _ h => h) (Or.inl ⟨by rfl, ?_⟩) (by assumption) ?_
      rotate_left 1
      focus (intro w hSw; (try dsimp only at hSw); go_simp; (try with_reducible rfl))
      (try simp only [Act.put, List.setIfInBounds_toArray, List.set_cons_zero, List.set_cons_succ])
      refine wpAnyH_take (i := 14) (oi := ⟨_, _, _, _, _, _⟩) (v := ?_) rfl (by kernel_rfl) (by kernel_rfl) (by kernel_rfl) (fun _ _ _ h => h) (Or.inl ⟨by rfl, ?_⟩) (by assumption) ?_
      rotate_left 1
      focus (intro w hSw; (try dsimp only at hSw); go_simp; (try with_reducible rfl))
      (try simp only [Act.put, List.setIfInBounds_toArray, List.set_cons_zero, List.set_cons_succ])
      refine wpAnyH_take (i := 15) (oi := ⟨_, _, _, _, _, _⟩) (v := ?_) rfl (by kernel_rfl) (by kernel_rfl) (by kernel_rfl) (fun _ _ _ h => h) (Or.inl ⟨by rfl, ?_⟩) (by assumption) ?_
      rotate_left 1
      focus (intro w hSw; (try dsimp only at hSw); go_simp; (try with_reducible rfl))
      (try simp only [Act.put, List.setIfInBounds_toArray, List.set_cons_zero, List.set_cons_succ])
      refine wpAnyH_take (i := 16) (oi := ⟨_, _, _, _, _, _⟩) (v := ?_) rfl (by kernel_rfl) (by kernel_rfl) (by kernel_rfl) (fun _ _ _ h => h) (Or.inl ⟨by rfl, ?_⟩) (by assumption) ?_
      rotate_left 1
      focus (intro w hSw; (try dsimp only at hSw); go_simp; (try with_reducible rfl))
      (try simp only [Act.put, List.setIfInBounds_toArray, List.set_cons_zero, List.set_cons_succ])
      refine wpAnyH_take (i := 17) (oi := ⟨_, _, _, _, _, _⟩) (v := ?_) rfl (by kernel_rfl) (by kernel_rfl) (by kernel_rfl) (fun _ _ _ h => h) (Or.inl ⟨by rfl, ?_⟩) (by assumption) ?_
      rotate_left 1
      focus (intro w hSw; (try dsimp only at hSw); go_simp; (try with_reducible rfl))
      (try simp only [Act.put, List.setIfInBounds_toArray, List.set_cons_zero, List.set_cons_succ])
      refine wpAnyH_take (i := 18) (oi := ⟨_, _, _, _, _, _⟩) (v := ?_) rfl (by kernel_rfl) (by kernel_rfl) (by kernel_rfl) (fun _ _ _ h => h) (Or.inl ⟨by rfl, ?_⟩) (by assumption) ?_
      rotate_left 1
      focus (intro w hSw; (try dsimp only at hSw); go_simp; (try with_reducible rfl))
      (try simp only [Act.put, List.setIfInBounds_toArray, List.set_cons_zero, List.set_cons_succ])
      refine wpAnyH_take (i := 19) (oi := ⟨_, _, _, _, _, _⟩) (v := ?_) rfl (by kernel_rfl) (by kernel_rfl) (by kernel_rfl) (fun _ _ _ h => h) (Or.inl ⟨by rfl, ?_⟩) (by assumption) ?_
      rotate_left 1
      focus (intro w hSw; (try dsimp only at hSw); go_simp; (try with_reducible rfl))
      (try simp only [Act.put, List.setIfInBounds_toArray, List.set_cons_zero, List.set_cons_succ])
      refine wpAnyH_take (i := 20) (oi := ⟨_, _, _, _, _, _⟩) (v := ?_) rfl (by kernel_rfl) (by kernel_rfl) (by kernel_rfl) (fun _ _ _ h => h) (Or.inl ⟨by rfl, ?_⟩) (by assumption) ?_
      rotate_left 1
      focus (intro w hSw; (try dsimp only at hSw); go_simp; (try with_reducible rfl))
      (try simp only [Act.put, List.setIfInBounds_toArray, List.set_cons_zero, List.set_cons_succ])
      refine wpAnyH_ready (rs := [1, 21]) (by kernel_rfl) (by simp) ?_
      refine AllReadyH.cons (o := ⟨_, _, _, _, _, _⟩) rfl (fun K hK => ?_) ?_
      · go_simp
        refine hK.out _ _ ?_ (fun hHeld => ?_)
        · first | assumption | exact KP.out _ NSD.out.bel | exact KP.out _ NSL.out.bel | exact KP.out _ B9.out | exact KP.out _ N2.out.bel
        clear hK K
        (try simp only [Act.put, List.setIfInBounds_toArray, List.set_cons_zero, List.set_cons_succ])
        refine wpAnyH_ready (rs := [21]) (by kernel_rfl) (by simp) ?_
        refine AllReadyH.cons (o := ⟨_, _, _, _, _, _⟩) rfl (fun K hK => ?_) ?_
        · go_simp
          refine hK.out _ _ ?_ (fun hHeld => ?_)
          · first | assumption | exact KP.out _ NSD.out.bel | exact KP.out _ NSL.out.bel | exact KP.out _ B9.out | exact KP.out _ N2.out.bel
          clear hK K
          (try simp only [Act.put, List.setIfInBounds_toArray, List.set_cons_zero, List.set_cons_succ])
          refine wpAnyH_ready (rs := [22]) (by kernel_rfl) (by simp) ?_
          refine AllReadyH.cons (o := ⟨_, _, _, _, _, _⟩) rfl (fun K hK => ?_) ?_
          · refine step_append_lies _ rfl _ _ 26 rfl (W5.heap.size + 1) 30 i0 (.agg #[.int .i64 0, .int .i64 0, .int .i64 0]) 3 24 Try.underlying26 hi0 hz0 hz1 hz2 rfl (by decide) _ _ _ (by rfl) OWN1.out ⟨wr.heap.size, 0, none⟩ 1 1 [.int .i64 b2, .int .i64 b1, .int .i64 b3] (by rfl) rfl (three_new wr.drew _ _ _ _) (by intro u hu; simp only [List.mem_cons, List.not_mem_nil, or_false] at hu; rcases hu with rfl | rfl | rfl <;> rfl) (by decide) (by unfold maxLen; omega) (by omega) (by simp; omega) (wr.heap.size + 1) (by simp) ?_
            intro g' cap2 w9 hown' hgrow hat hlt9
            have nx := Mir.push (r := (b2, b1, b3)) NSL.out HV.out.symm hgrow hown'
            obtain ⟨n1, n2⟩ := nx
            obtain ⟨_, _, n3, n4⟩ := n1.two
            have N2 := Lib.hid n2
            have B9 := Lib.hid (Mir.grow NSL.out hgrow)
            clear hown' hgrow n1 n2 hat hlt9
            refine hK.out _ _ ?_ (fun hHeld => ?_)
            · first | assumption | exact KP.out _ NSD.out.bel | exact KP.out _ NSL.out.bel | exact KP.out _ B9.out | exact KP.out _ N2.out.bel
            clear hK K
            (try simp only [Act.put, List.setIfInBounds_toArray, List.set_cons_zero, List.set_cons_succ])
            refine wpAnyH_take (i := 23) (oi := ⟨_, _, _, _, _, _⟩) (v := ?_) rfl (by kernel_rfl) (by kernel_rfl) (by kernel_rfl) (fun _ _ _ h => h) (Or.inl ⟨by rfl, ?_⟩) (by assumption) ?_
            rotate_left 1
            focus (intro w hSw; (try dsimp only at hSw); go_simp; (try with_reducible rfl))
            (try simp only [Act.put, List.setIfInBounds_toArray, List.set_cons_zero, List.set_cons_succ])
            refine wpAnyH_ready (rs := [24]) (by kernel_rfl) (by simp) ?_
            refine AllReadyH.cons (o := ⟨_, _, _, _, _, _⟩) rfl (fun K hK => ?_) ?_
            · go_simp
              refine hK.out _ _ ?_ (fun hHeld => ?_)
              · first | assumption | exact KP.out _ NSD.out.bel | exact KP.out _ NSL.out.bel | exact KP.out _ B9.out | exact KP.out _ N2.out.bel
              clear hK K
              (try simp only [Act.put, List.setIfInBounds_toArray, List.set_cons_zero, List.set_cons_succ])
              refine wpAnyH_done (by kernel_rfl) ?_ _
              go_wp2_with fail
              go_roundg (K - (i + 1))
              case measure => omega
              case rel => exact ⟨i + 1, _, _, by go_num, by omega, by rw [HVN.out]; exact N2.out⟩
            exact AllReadyH.nil
          exact AllReadyH.nil
        exact AllReadyH.nil
      refine AllReadyH.cons (o := ⟨_, _, _, _, _, _⟩) rfl (fun K hK => ?_) ?_
      · go_simp
        refine hK.out _ _ ?_ (fun hHeld => ?_)
        · first | assumption | exact KP.out _ NSD.out.bel | exact KP.out _ NSL.out.bel | exact KP.out _ B9.out | exact KP.out _ N2.out.bel
        clear hK K
        (try simp only [Act.put, List.setIfInBounds_toArray, List.set_cons_zero, List.set_cons_succ])
        refine wpAnyH_ready (rs := [1]) (by kernel_rfl) (by simp) ?_
        refine AllReadyH.cons (o := ⟨_, _, _, _, _, _⟩) rfl (fun K hK => ?_) ?_
        · go_simp
          refine hK.out _ _ ?_ (fun hHeld => ?_)
          · first | assumption | exact KP.out _ NSD.out.bel | exact KP.out _ NSL.out.bel | exact KP.out _ B9.out | exact KP.out _ N2.out.bel
          clear hK K
          (try simp only [Act.put, List.setIfInBounds_toArray, List.set_cons_zero, List.set_cons_succ])
          refine wpAnyH_ready (rs := [22]) (by kernel_rfl) (by simp) ?_
          refine AllReadyH.cons (o := ⟨_, _, _, _, _, _⟩) rfl (fun K hK => ?_) ?_
          · refine step_append_lies _ rfl _ _ 26 rfl (W5.heap.size + 1) 30 i0 (.agg #[.int .i64 0, .int .i64 0, .int .i64 0]) 3 24 Try.underlying26 hi0 hz0 hz1 hz2 rfl (by decide) _ _ _ (by rfl) OWN1.out ⟨wr.heap.size, 0, none⟩ 1 1 [.int .i64 b2, .int .i64 b1, .int .i64 b3] (by rfl) rfl (three_new wr.drew _ _ _ _) (by intro u hu; simp only [List.mem_cons, List.not_mem_nil, or_false] at hu; rcases hu with rfl | rfl | rfl <;> rfl) (by decide) (by unfold maxLen; omega) (by omega) (by simp; omega) (wr.heap.size + 1) (by simp) ?_
            intro g' cap2 w9 hown' hgrow hat hlt9
            have nx := Mir.push (r := (b2, b1, b3)) NSL.out HV.out.symm hgrow hown'
            obtain ⟨n1, n2⟩ := nx
            obtain ⟨_, _, n3, n4⟩ := n1.two
            have N2 := Lib.hid n2
            have B9 := Lib.hid (Mir.grow NSL.out hgrow)
            clear hown' hgrow n1 n2 hat hlt9
            refine hK.out _ _ ?_ (fun hHeld => ?_)
            · first | assumption | exact KP.out _ NSD.out.bel | exact KP.out _ NSL.out.bel | exact KP.out _ B9.out | exact KP.out _ N2.out.bel
            clear hK K
            (try simp only [Act.put, List.setIfInBounds_toArray, List.set_cons_zero, List.set_cons_succ])
            refine wpAnyH_take (i := 23) (oi := ⟨_, _, _, _, _, _⟩) (v := ?_) rfl (by kernel_rfl) (by kernel_rfl) (by kernel_rfl) (fun _ _ _ h => h) (Or.inl ⟨by rfl, ?_⟩) (by assumption) ?_
            rotate_left 1
            focus (intro w hSw; (try dsimp only at hSw); go_simp; (try with_reducible rfl))
            (try simp only [Act.put, List.setIfInBounds_toArray, List.set_cons_zero, List.set_cons_succ])
            refine wpAnyH_ready (rs := [24]) (by kernel_rfl) (by simp) ?_
            refine AllReadyH.cons (o := ⟨_, _, _, _, _, _⟩) rfl (fun K hK => ?_) ?_
            · go_simp
              refine hK.out _ _ ?_ (fun hHeld => ?_)
              · first | assumption | exact KP.out _ NSD.out.bel | exact KP.out _ NSL.out.bel | exact KP.out _ B9.out | exact KP.out _ N2.out.bel
              clear hK K
              (try simp only [Act.put, List.setIfInBounds_toArray, List.set_cons_zero, List.set_cons_succ])
              refine wpAnyH_done (by kernel_rfl) ?_ _
              go_wp2_with fail
              go_roundg (K - (i + 1))
              case measure => omega
              case rel => exact ⟨i + 1, _, _, by go_num, by omega, by rw [HVN.out]; exact N2.out⟩
            exact AllReadyH.nil
          exact AllReadyH.nil
        exact AllReadyH.nil
      exact AllReadyH.nil
    · obtain rfl : i = K := by omega
      have hV : (bs.take i).map trn = bs.map trn := by rw [List.take_of_length_le (by rw [← HKK.out]; exact Nat.le_refl _)]
      rw [hV] at hns
      have hkk : (bs.map trn).length = i := by rw [List.length_map, ← HKK.out]
      have mb := hns.f.row
      rw [hkk] at mb
      have MB := Lib.hid mb; have MR := Lib.hid hns.f.rds
      have b := hns.bel
      replace X := Lib.hid (X.out.step b); replace Y := Lib.hid (Y.out.step b); replace E := Lib.hid (E.out.deep b); replace YY := Lib.hid (YY.out.deep b); replace BW := Lib.hid (below_step BW.out b)
      clear b mb hns hV
      have ii : ¬ (i : Int) < (i : Int) := by omega
      ((try clear x0); (try clear x1); (try clear x2); (try clear x3); (try clear i1); have x0 := X.out.at (i := 0) rfl; have x1 := X.out.at (i := 1) rfl; have x2 := X.out.at (i := 2) rfl; have x3 := X.out.at (i := 3) rfl; have i1 := X.out.inside)
      obtain ⟨W6, rfl⟩ : ∃ W6, W6 = wr := ⟨_, rfl⟩
      go_upto_region 10 with (go_at_call 26; (with_reducible refine (HHID.out _ BW.out).mono ?_); rintro e w9 ⟨gh, hcap, rfl, r, b⟩; have OH := Lib.hid r; have BH := Lib.hid b; clear r b)
      clear x0 x1 x2 x3 i1 y1 X
      go_cut [11] (fun s11 W => s11 = .int .i64 0 ∧ w9 = W)
      case first =>
        go_wp2_with fail
        go_meet
        case rel => exact ⟨rfl, rfl⟩
      obtain ⟨rfl, rfl⟩ := hcut
      first | go_back | go_step | go_upon | go_values
      go_cut [11] (fun _ W => ∃ hl : List Int, W.ownsRow W6.heap.size 3 1 (.slice (some ⟨gh, 0, none⟩) n hcap) n (intV hl) ∧ hl.length = n ∧ (∀ a ∈ hl, -110 ≤ a ∧ a ≤ 110) ∧ Below W6.heap.size W6 W)
      case first =>
        go_upto_region 11 with (fail)
        go_loopg [11] n (fun kx s11 wr => ∃ (k : Nat) (hl : List Int), s11 = .int .i64 (k : Int) ∧ k + kx = n ∧ Below W6.heap.size W6 wr ∧ wr.ownsRow W6.heap.size 3 1 (.slice (some ⟨gh, 0, none⟩) n hcap) n (intV hl) ∧ Hid (hl.length = n ∧ (∀ a ∈ hl, -110 ≤ a ∧ a ≤ 110) ∧ ∀ j, k ≤ j → ∀ a, hl[j]? = some a → -100 ≤ a ∧ a ≤ 99))
        case atStart => exact ⟨0, hh, rfl, by omega, BH.out, OH.out, Lib.hid ⟨HLEN.out, fun a ha => by have := HBD.out a ha; omega, fun j _ a ha => HBD.out a (List.mem_of_getElem? ha)⟩⟩
        case round =>
          obtain ⟨k, hl, rfl, hk, hbel, hown, HH⟩ := hrel
          by_cases hkn : k < n
          · by_cases hky : k < yL
            · have k1 : (k : Int) < (n : Int) := by omega
              have k2 : (k : Int) < (yL : Int) := by omega
              obtain ⟨a, ha⟩ : ∃ a, hl[k]? = some a := at_lt (by rw [HH.out.1]; exact hkn)
              obtain ⟨v, hv⟩ : ∃ v, y[k]? = some v := at_lt (by rw [← HYL.out]; exact hky)
              have ab := HH.out.2.2 k (Nat.le_refl _) a ha
              have c1 := nums_cell (own_intNums hown) ha
              obtain ⟨yb, yo, hYA, _, c2⟩ := (YY.out.deep hbel).at hv
              subst hYA
              have p2 := HPY.out k v hv
              have r2 := pk_range (c := v) (n := 21) (by omega)
              generalize pk v 21 = q at *
              have w1' : IntKind.i64.wrap (a + q) = a + q := IntWalk.i64_in _ (by omega)
              have w2' : IntKind.i64.wrap (a + q - 10) = a + q - 10 := IntWalk.i64_in _ (by omega)
              have P2 := Lib.hid p2
              have fz := own_free hown k
              have st2 := hown.stored k (.int .i64 (a + q - 10))
              rw [intV_set] at st2
              have hbl := (hown.lt gh rfl)
              have hh2 : (hl.set k (a + q - 10)).length = n ∧ (∀ x ∈ hl.set k (a + q - 10), -110 ≤ x ∧ x ≤ 110) ∧ ∀ j, k + 1 ≤ j → ∀ x, (hl.set k (a + q - 10))[j]? = some x → -100 ≤ x ∧ x ≤ 99 := by
                obtain ⟨g1, g2, g3⟩ := HH.out
                refine ⟨by rw [List.length_set]; exact g1, fun x hx => ?_, fun j hj x hx => ?_⟩
                · rcases List.mem_or_eq_of_mem_set hx with h | h
                  · exact g2 x h
                  · omega
                · rw [List.getElem?_set_ne (by omega)] at hx
                  exact g3 j (by omega) x hx
              have ST2 := Lib.hid st2; have HH2 := Lib.hid hh2; have HBEL := Lib.hid hbel; have OWN := Lib.hid hown
              clear st2 hh2 p2 ha hv hbel
              go_upto_region 13 with (fail)
              refine wp_region_still_tail 14 (by kernel_rfl) (by kernel_rfl) ?_
              simp only [List.take_succ_cons, List.take_zero, List.drop_succ_cons, List.drop_zero]
              repeat (first | still_step | still_call (P2.out _))
              try refine wpStill_nil ?_
              change wpList _ _ _ _ _ wr.drew
              go_wp2
              go_roundg (n - (k + 1))
              case measure => omega
              case rel => exact ⟨k + 1, hl.set k (a + q - 10), by go_num, by omega, (HBEL.out.drew).setCell (p := ⟨gh, k, none⟩) (by show W6.heap.size ≤ gh; omega) _, ST2.out.1, HH2⟩
            · have k1 : (k : Int) < (n : Int) := by omega
              have k2 : ¬ (k : Int) < (yL : Int) := by omega
              have HBEL := Lib.hid hbel; have OWN := Lib.hid hown
              clear hbel hown
              go_wp2
              go_meet
              case rel => exact ⟨hl, OWN.out, HH.out.1, HH.out.2.1, HBEL.out⟩
          · have k1 : ¬ (k : Int) < (n : Int) := by omega
            have HBEL := Lib.hid hbel; have OWN := Lib.hid hown
            clear hbel hown
            go_wp2
            go_meet
            case rel => exact ⟨hl, OWN.out, HH.out.1, HH.out.2.1, HBEL.out⟩
      case rest =>
        obtain ⟨hl, hown, hlen, hbd, hbel⟩ := hcut
        have b := hbel
        replace Y := Lib.hid (Y.out.step b); replace E := Lib.hid (E.out.deep b); replace MB := Lib.hid (MB.out.step b); replace MR := Lib.hid (MR.out.deep b); replace BW := Lib.hid (below_step BW.out b)
        have HN := Lib.hid (own_intNums hown)
        have hq := HAL.out hl hlen (fun a ha => by have := hbd a ha; omega)
        obtain ⟨q, hqf, hq1, hq2, hq3⟩ := hq
        have HQF := Lib.hid hqf; have HQ1 := Lib.hid hq1; have HQ2 := Lib.hid hq2; have HQ3 := Lib.hid hq3; have HLEN2 := Lib.hid hlen; have HBD2 := Lib.hid hbd
        clear b hbel hown hqf hq1 hq2 hq3 hlen hbd HHID HMAD HSAN HPY YY OH BH HLEN HBD HAL
        obtain ⟨W7, rfl⟩ : ∃ W7, W7 = wc := ⟨_, rfl⟩
        obtain ⟨j0, hj, hj0, hj1, hj2⟩ := info_parts hid_info
        go_upto_region 17 with (fail)
        have st : Tw3 W7 W7 W7.heap.size none 0 ((hl.take 0).map fun a => a + (z - 500000)) none 0 ((hl.take 0).map fun a => -a) := ⟨Below.refl _ _, ⟨rfl, .inl ⟨rfl, rfl⟩⟩, ⟨rfl, .inl ⟨rfl, rfl⟩⟩, fun _ h => (by cases h), Nat.le_refl _⟩
        have ST := Lib.hid st
        clear st
        go_loopg [12, 13, 14] n (fun kx s12 s13 s14 wr => ∃ (k : Nat) (A1 : Option Addr) (c1 : Nat) (A2 : Option Addr) (c2 : Nat), s14 = .int .i64 (k : Int) ∧ s12 = .slice A1 k c1 ∧ s13 = .slice A2 k c2 ∧ k + kx = n ∧ Tw3 W7 wr W7.heap.size A1 c1 ((hl.take k).map fun a => a + (z - 500000)) A2 c2 ((hl.take k).map fun a => -a))
        case atStart => exact ⟨0, none, 0, none, 0, rfl, rfl, rfl, by omega, ST.out⟩
        case round =>
          clear ST
          obtain ⟨k, A1, c1, A2, c2, rfl, rfl, rfl, hk, hns⟩ := hrel
          by_cases hkn : k < n
          · have k1 : (k : Int) < (n : Int) := by omega
            obtain ⟨a, ha⟩ : ∃ a, hl[k]? = some a := at_lt (by rw [HLEN2.out]; exact hkn)
            have ab := HBD2.out a (List.mem_of_getElem? ha)
            have kp : ∀ W, Below W7.heap.size W7 W → (Below W7.heap.size W7 W ∧ W.cell? ⟨gh, k, none⟩ = some (.int .i64 a)) := fun W b => ⟨b, nums_cell (HN.out.deep b) ha⟩
            have hL1 : ((hl.take k).map fun a => a + (z - 500000)).length = k := by rw [List.length_map, List.length_take, HLEN2.out]; omega
            have hL2 : ((hl.take k).map fun a => -a).length = k := by rw [List.length_map, List.length_take, HLEN2.out]; omega
            have hN1 : ((hl.take (k + 1)).map fun a => a + (z - 500000)) = ((hl.take k).map fun a => a + (z - 500000)) ++ [a + z - 500000] := by
              rw [List.take_add_one, ha, List.map_append]
              congr 1
              simp only [Option.toList_some, List.map_cons, List.map_nil, List.cons.injEq, and_true]
              omega
            have hN2 : ((hl.take (k + 1)).map fun a => -a) = ((hl.take k).map fun a => -a) ++ [-a] := by rw [List.take_add_one, ha, List.map_append]; rfl
            have w1' : IntKind.i64.wrap (a + z) = a + z := IntWalk.i64_in _ (by omega)
            have w2' : IntKind.i64.wrap (a + z - 500000) = a + z - 500000 := IntWalk.i64_in _ (by omega)
            have w3' : IntKind.i64.wrap (-a) = -a := IntWalk.i64_in _ (by omega)
            have nsd := hns.drew
            have nsl := nsd.later (.cells #[.int .i64 (a + z - 500000)] 3)
            have own1 := nsl.o1
            rw [hL1] at own1
            have sz := hns.size
            have KP := Lib.hid kp; have HL1 := Lib.hid hL1; have HL2 := Lib.hid hL2; have HN1 := Lib.hid hN1; have HN2 := Lib.hid hN2; have NSD := Lib.hid nsd; have NSL := Lib.hid nsl; have OWN1 := Lib.hid own1; have NS := Lib.hid hns
            clear kp hL1 hL2 hN1 hN2 nsd nsl own1 hns ha
            go_upto_region 19 with (fail)
            go_region_held3 (fun W => (Below W7.heap.size W7 W ∧ W.cell? ⟨gh, k, none⟩ = some (.int .i64 a)))
              (first | assumption | exact KP.out _ NSD.out.bel | exact KP.out _ NSL.out.bel | exact KP.out _ N2.out.bel | fail)
              (first
                | (go_at_call 13; (with_reducible refine (PQ.out _).mono ?_); rintro e wx ⟨rfl, hwx⟩; have hwx := hwx.symm; subst hwx)
                | (refine step_append_lies _ rfl _ _ 22 rfl W7.heap.size 3 j0 (.int .i64 0) 1 8 Try.underlying22 hj hj0 hj1 hj2 rfl (by decide) _ _ _ (by rfl) OWN1.out ⟨wr.heap.size, 0, none⟩ 1 1 [.int .i64 (a + z - 500000)] (by rfl) rfl (one_new wr.drew _ _) (by intro u hu; rw [List.mem_singleton.1 hu]; rfl) (by decide) (by unfold maxLen; omega) (by omega) (by simp; omega) (wr.heap.size + 1) (by simp) ?_; intro g' cap2 w9 hown' hgrow hat hlt9; have nx := Tw3.push1 NSL.out HL1.out.symm hgrow hown' hat (by simp); have N2 := Lib.hid nx; clear nx hown' hgrow hat hlt9)
                | fail)
            have c9 := (KP.out _ N2.out.bel).2
            have nl2 := N2.out.later (.cells #[.int .i64 (-a)] 3)
            have own2 := nl2.o2
            rw [HL2.out] at own2
            have NL2 := Lib.hid nl2; have OWN2 := Lib.hid own2
            have sz2 := N2.out.size
            clear nl2 own2
            go_wp2_with (at_builtin; refine wpList_append_lies _ rfl _ _ 22 rfl W7.heap.size 3 j0 (.int .i64 0) 1 8 Try.underlying22 hj hj0 hj1 hj2 rfl (by decide) _ _ _ rfl OWN2.out ⟨w9.heap.size, 0, none⟩ 1 1 [.int .i64 (-a)] rfl rfl (one_new w9 _ _) (by intro u hu; rw [List.mem_singleton.1 hu]; rfl) (by decide) (by unfold maxLen; omega) (by omega) (by simp; omega) (w9.heap.size + 1) (by simp) ?_; intro g2 cap3 w10 hown2 hgrow2 hat2 hlt2; have ny := Tw3.push2 NL2.out HL2.out.symm hgrow2 hown2 hat2 (by simp); have N3 := Lib.hid ny; clear ny hown2 hgrow2 hat2 hlt2)
            go_roundg (n - (k + 1))
            case measure => omega
            case rel => exact ⟨k + 1, _, _, _, _, by go_num, rfl, rfl, by omega, by rw [HN1.out, HN2.out]; exact N3.out⟩
          · obtain rfl : k = n := by omega
            have e1 : hl.take k = hl := List.take_of_length_le (by rw [HLEN2.out]; exact Nat.le_refl _)
            rw [e1] at hns
            have o1 := hns.o1
            have o2 := hns.o2
            rw [List.length_map, HLEN2.out] at o1 o2
            have M1 := Lib.hid (own_intAny o1); have T1 := Lib.hid (own_intAny o2)
            have b := hns.bel
            replace Y := Lib.hid (Y.out.step b); replace E := Lib.hid (E.out.deep b); replace MB := Lib.hid (MB.out.step b); replace MR := Lib.hid (MR.out.deep b); replace HN := Lib.hid (HN.out.deep b); replace BW := Lib.hid (below_step BW.out b)
            clear b hns o1 o2 e1
            have kk2 : ¬ (k : Int) < (k : Int) := by omega
            have nq : (q != q) = false := by cases q <;> rfl
            ((try clear y0); (try clear y1); (try clear i2); have y0 := Y.out.two.1; have y1 := Y.out.two.2.1; have i2 := Y.out.inside)
            ((try clear m0); (try clear m1); (try clear i3); have m0 := MB.out.two.1; have m1 := MB.out.two.2.1; have i3 := MB.out.inside)
            go_upto_region 24 with (first
              | (go_at_call 27; (with_reducible refine (HQ1.out _ _ _ _ _ E.out HN.out).mono ?_); rintro e w11 ⟨rfl, b⟩; ((try replace Y := Lib.hid (Y.out.step (below_step (by (repeat (first | exact Below.refl _ _ | refine keep_alloc ?_ _ | refine Below.drew ?_))) b))); (try replace E := Lib.hid (E.out.deep (below_step (by (repeat (first | exact Below.refl _ _ | refine keep_alloc ?_ _ | refine Below.drew ?_))) b))); (try replace MB := Lib.hid (MB.out.step (below_step (by (repeat (first | exact Below.refl _ _ | refine keep_alloc ?_ _ | refine Below.drew ?_))) b))); (try replace MR := Lib.hid (MR.out.deep (below_step (by (repeat (first | exact Below.refl _ _ | refine keep_alloc ?_ _ | refine Below.drew ?_))) b))); (try replace HN := Lib.hid (HN.out.deep (below_step (by (repeat (first | exact Below.refl _ _ | refine keep_alloc ?_ _ | refine Below.drew ?_))) b))); (try replace M1 := Lib.hid (M1.out.deep (below_step (by (repeat (first | exact Below.refl _ _ | refine keep_alloc ?_ _ | refine Below.drew ?_))) b))); (try replace T1 := Lib.hid (T1.out.deep (below_step (by (repeat (first | exact Below.refl _ _ | refine keep_alloc ?_ _ | refine Below.drew ?_))) b))); (try replace D1 := Lib.hid (D1.out.step (below_step (by (repeat (first | exact Below.refl _ _ | refine keep_alloc ?_ _ | refine Below.drew ?_))) b))); (try replace BW := Lib.hid (below_step BW.out (below_step (by (repeat (first | exact Below.refl _ _ | refine keep_alloc ?_ _ | refine Below.drew ?_))) b))); clear b); ((try clear y0); (try clear y1); (try clear i2); have y0 := Y.out.two.1; have y1 := Y.out.two.2.1; have i2 := Y.out.inside); ((try clear m0); (try clear m1); (try clear i3); have m0 := MB.out.two.1; have m1 := MB.out.two.2.1; have i3 := MB.out.inside))
              | (go_at_call 27; (with_reducible refine (HQ2.out _ _ _ _ _ E.out M1.out).mono ?_); rintro e w12 ⟨rfl, b⟩; ((try replace Y := Lib.hid (Y.out.step (below_step (by (repeat (first | exact Below.refl _ _ | refine keep_alloc ?_ _ | refine Below.drew ?_))) b))); (try replace E := Lib.hid (E.out.deep (below_step (by (repeat (first | exact Below.refl _ _ | refine keep_alloc ?_ _ | refine Below.drew ?_))) b))); (try replace MB := Lib.hid (MB.out.step (below_step (by (repeat (first | exact Below.refl _ _ | refine keep_alloc ?_ _ | refine Below.drew ?_))) b))); (try replace MR := Lib.hid (MR.out.deep (below_step (by (repeat (first | exact Below.refl _ _ | refine keep_alloc ?_ _ | refine Below.drew ?_))) b))); (try replace HN := Lib.hid (HN.out.deep (below_step (by (repeat (first | exact Below.refl _ _ | refine keep_alloc ?_ _ | refine Below.drew ?_))) b))); (try replace M1 := Lib.hid (M1.out.deep (below_step (by (repeat (first | exact Below.refl _ _ | refine keep_alloc ?_ _ | refine Below.drew ?_))) b))); (try replace T1 := Lib.hid (T1.out.deep (below_step (by (repeat (first | exact Below.refl _ _ | refine keep_alloc ?_ _ | refine Below.drew ?_))) b))); (try replace D1 := Lib.hid (D1.out.step (below_step (by (repeat (first | exact Below.refl _ _ | refine keep_alloc ?_ _ | refine Below.drew ?_))) b))); (try replace BW := Lib.hid (below_step BW.out (below_step (by (repeat (first | exact Below.refl _ _ | refine keep_alloc ?_ _ | refine Below.drew ?_))) b))); clear b); ((try clear y0); (try clear y1); (try clear i2); have y0 := Y.out.two.1; have y1 := Y.out.two.2.1; have i2 := Y.out.inside); ((try clear m0); (try clear m1); (try clear i3); have m0 := MB.out.two.1; have m1 := MB.out.two.2.1; have i3 := MB.out.inside))
              | (go_at_call 27; (with_reducible refine (HQ3.out _ _ _ _ _ MR.out T1.out).mono ?_); rintro e w13 ⟨rfl, b⟩; ((try replace Y := Lib.hid (Y.out.step (below_step (by (repeat (first | exact Below.refl _ _ | refine keep_alloc ?_ _ | refine Below.drew ?_))) b))); (try replace E := Lib.hid (E.out.deep (below_step (by (repeat (first | exact Below.refl _ _ | refine keep_alloc ?_ _ | refine Below.drew ?_))) b))); (try replace MB := Lib.hid (MB.out.step (below_step (by (repeat (first | exact Below.refl _ _ | refine keep_alloc ?_ _ | refine Below.drew ?_))) b))); (try replace MR := Lib.hid (MR.out.deep (below_step (by (repeat (first | exact Below.refl _ _ | refine keep_alloc ?_ _ | refine Below.drew ?_))) b))); (try replace HN := Lib.hid (HN.out.deep (below_step (by (repeat (first | exact Below.refl _ _ | refine keep_alloc ?_ _ | refine Below.drew ?_))) b))); (try replace M1 := Lib.hid (M1.out.deep (below_step (by (repeat (first | exact Below.refl _ _ | refine keep_alloc ?_ _ | refine Below.drew ?_))) b))); (try replace T1 := Lib.hid (T1.out.deep (below_step (by (repeat (first | exact Below.refl _ _ | refine keep_alloc ?_ _ | refine Below.drew ?_))) b))); (try replace D1 := Lib.hid (D1.out.step (below_step (by (repeat (first | exact Below.refl _ _ | refine keep_alloc ?_ _ | refine Below.drew ?_))) b))); (try replace BW := Lib.hid (below_step BW.out (below_step (by (repeat (first | exact Below.refl _ _ | refine keep_alloc ?_ _ | refine Below.drew ?_))) b))); clear b); ((try clear y0); (try clear y1); (try clear i2); have y0 := Y.out.two.1; have y1 := Y.out.two.2.1; have i2 := Y.out.inside); ((try clear m0); (try clear m1); (try clear i3); have m0 := MB.out.two.1; have m1 := MB.out.two.2.1; have i3 := MB.out.inside)))
            clear HQ1 HQ2 HQ3 HN M1 T1
            rcases hfc : fineB (k : Int) bs with _ | _
            · obtain ⟨f1, f2⟩ := HCN.out hfc
              have hq := HQF.out hfc
              subst hq
              have F1 := Lib.hid f1; have F2 := Lib.hid f2
              clear f1 f2 hfc HCN HCY HQF
              go_upto_region 29 with (first
                | (go_at_call 16; (with_reducible refine (F1.out _ _ _ E.out).mono ?_); rintro e w14 ⟨rfl, b⟩; ((try replace Y := Lib.hid (Y.out.step (below_step (by (repeat (first | exact Below.refl _ _ | refine keep_alloc ?_ _ | refine Below.drew ?_))) b))); (try replace E := Lib.hid (E.out.deep (below_step (by (repeat (first | exact Below.refl _ _ | refine keep_alloc ?_ _ | refine Below.drew ?_))) b))); (try replace MB := Lib.hid (MB.out.step (below_step (by (repeat (first | exact Below.refl _ _ | refine keep_alloc ?_ _ | refine Below.drew ?_))) b))); (try replace MR := Lib.hid (MR.out.deep (below_step (by (repeat (first | exact Below.refl _ _ | refine keep_alloc ?_ _ | refine Below.drew ?_))) b))); (try replace HN := Lib.hid (HN.out.deep (below_step (by (repeat (first | exact Below.refl _ _ | refine keep_alloc ?_ _ | refine Below.drew ?_))) b))); (try replace M1 := Lib.hid (M1.out.deep (below_step (by (repeat (first | exact Below.refl _ _ | refine keep_alloc ?_ _ | refine Below.drew ?_))) b))); (try replace T1 := Lib.hid (T1.out.deep (below_step (by (repeat (first | exact Below.refl _ _ | refine keep_alloc ?_ _ | refine Below.drew ?_))) b))); (try replace D1 := Lib.hid (D1.out.step (below_step (by (repeat (first | exact Below.refl _ _ | refine keep_alloc ?_ _ | refine Below.drew ?_))) b))); (try replace BW := Lib.hid (below_step BW.out (below_step (by (repeat (first | exact Below.refl _ _ | refine keep_alloc ?_ _ | refine Below.drew ?_))) b))); clear b); clear E; ((try clear y0); (try clear y1); (try clear i2); have y0 := Y.out.two.1; have y1 := Y.out.two.2.1; have i2 := Y.out.inside); ((try clear m0); (try clear m1); (try clear i3); have m0 := MB.out.two.1; have m1 := MB.out.two.2.1; have i3 := MB.out.inside))
                | (go_at_call 16; (with_reducible refine (F2.out _ _ _ MR.out).mono ?_); rintro e w15 ⟨rfl, b⟩; ((try replace Y := Lib.hid (Y.out.step (below_step (by (repeat (first | exact Below.refl _ _ | refine keep_alloc ?_ _ | refine Below.drew ?_))) b))); (try replace E := Lib.hid (E.out.deep (below_step (by (repeat (first | exact Below.refl _ _ | refine keep_alloc ?_ _ | refine Below.drew ?_))) b))); (try replace MB := Lib.hid (MB.out.step (below_step (by (repeat (first | exact Below.refl _ _ | refine keep_alloc ?_ _ | refine Below.drew ?_))) b))); (try replace MR := Lib.hid (MR.out.deep (below_step (by (repeat (first | exact Below.refl _ _ | refine keep_alloc ?_ _ | refine Below.drew ?_))) b))); (try replace HN := Lib.hid (HN.out.deep (below_step (by (repeat (first | exact Below.refl _ _ | refine keep_alloc ?_ _ | refine Below.drew ?_))) b))); (try replace M1 := Lib.hid (M1.out.deep (below_step (by (repeat (first | exact Below.refl _ _ | refine keep_alloc ?_ _ | refine Below.drew ?_))) b))); (try replace T1 := Lib.hid (T1.out.deep (below_step (by (repeat (first | exact Below.refl _ _ | refine keep_alloc ?_ _ | refine Below.drew ?_))) b))); (try replace D1 := Lib.hid (D1.out.step (below_step (by (repeat (first | exact Below.refl _ _ | refine keep_alloc ?_ _ | refine Below.drew ?_))) b))); (try replace BW := Lib.hid (below_step BW.out (below_step (by (repeat (first | exact Below.refl _ _ | refine keep_alloc ?_ _ | refine Below.drew ?_))) b))); clear b); ((try clear y0); (try clear y1); (try clear i2); have y0 := Y.out.two.1; have y1 := Y.out.two.2.1; have i2 := Y.out.inside); ((try clear m0); (try clear m1); (try clear i3); have m0 := MB.out.two.1; have m1 := MB.out.two.2.1; have i3 := MB.out.inside)))
              go_loopg [20] 0 (fun kx s20 wr => s20 = .int .i64 0 ∧ Below w15.heap.size w15 wr)
              case atStart => exact ⟨rfl, Below.refl _ _⟩
              case round =>
                obtain ⟨rfl, hbi⟩ := hrel
                go_wp2
                go_ret
                exact ⟨rfl, below_step BW.out hbi⟩
            · obtain ⟨f1, f2, f3⟩ := HCY.out hfc
              unfold tblV at f1 f2
              have F1 := Lib.hid f1; have F2 := Lib.hid f2; have F3 := Lib.hid f3
              clear f1 f2 f3 hfc HCN HCY HQF
              go_upto_region 29 with (first
                | (go_at_call 16; (with_reducible refine (F1.out _ _ _ E.out).mono ?_); rintro e w14 ⟨d1, rfl, r, b⟩; ((try replace Y := Lib.hid (Y.out.step (below_step (by (repeat (first | exact Below.refl _ _ | refine keep_alloc ?_ _ | refine Below.drew ?_))) b))); (try replace E := Lib.hid (E.out.deep (below_step (by (repeat (first | exact Below.refl _ _ | refine keep_alloc ?_ _ | refine Below.drew ?_))) b))); (try replace MB := Lib.hid (MB.out.step (below_step (by (repeat (first | exact Below.refl _ _ | refine keep_alloc ?_ _ | refine Below.drew ?_))) b))); (try replace MR := Lib.hid (MR.out.deep (below_step (by (repeat (first | exact Below.refl _ _ | refine keep_alloc ?_ _ | refine Below.drew ?_))) b))); (try replace HN := Lib.hid (HN.out.deep (below_step (by (repeat (first | exact Below.refl _ _ | refine keep_alloc ?_ _ | refine Below.drew ?_))) b))); (try replace M1 := Lib.hid (M1.out.deep (below_step (by (repeat (first | exact Below.refl _ _ | refine keep_alloc ?_ _ | refine Below.drew ?_))) b))); (try replace T1 := Lib.hid (T1.out.deep (below_step (by (repeat (first | exact Below.refl _ _ | refine keep_alloc ?_ _ | refine Below.drew ?_))) b))); (try replace D1 := Lib.hid (D1.out.step (below_step (by (repeat (first | exact Below.refl _ _ | refine keep_alloc ?_ _ | refine Below.drew ?_))) b))); (try replace BW := Lib.hid (below_step BW.out (below_step (by (repeat (first | exact Below.refl _ _ | refine keep_alloc ?_ _ | refine Below.drew ?_))) b))); clear b); clear E; have D1 := Lib.hid r; clear r; ((try clear y0); (try clear y1); (try clear i2); have y0 := Y.out.two.1; have y1 := Y.out.two.2.1; have i2 := Y.out.inside); ((try clear m0); (try clear m1); (try clear i3); have m0 := MB.out.two.1; have m1 := MB.out.two.2.1; have i3 := MB.out.inside))
                | (go_at_call 16; (with_reducible refine (F2.out _ _ _ MR.out).mono ?_); rintro e w15 ⟨d2, rfl, r, b⟩; ((try replace Y := Lib.hid (Y.out.step (below_step (by (repeat (first | exact Below.refl _ _ | refine keep_alloc ?_ _ | refine Below.drew ?_))) b))); (try replace E := Lib.hid (E.out.deep (below_step (by (repeat (first | exact Below.refl _ _ | refine keep_alloc ?_ _ | refine Below.drew ?_))) b))); (try replace MB := Lib.hid (MB.out.step (below_step (by (repeat (first | exact Below.refl _ _ | refine keep_alloc ?_ _ | refine Below.drew ?_))) b))); (try replace MR := Lib.hid (MR.out.deep (below_step (by (repeat (first | exact Below.refl _ _ | refine keep_alloc ?_ _ | refine Below.drew ?_))) b))); (try replace HN := Lib.hid (HN.out.deep (below_step (by (repeat (first | exact Below.refl _ _ | refine keep_alloc ?_ _ | refine Below.drew ?_))) b))); (try replace M1 := Lib.hid (M1.out.deep (below_step (by (repeat (first | exact Below.refl _ _ | refine keep_alloc ?_ _ | refine Below.drew ?_))) b))); (try replace T1 := Lib.hid (T1.out.deep (below_step (by (repeat (first | exact Below.refl _ _ | refine keep_alloc ?_ _ | refine Below.drew ?_))) b))); (try replace D1 := Lib.hid (D1.out.step (below_step (by (repeat (first | exact Below.refl _ _ | refine keep_alloc ?_ _ | refine Below.drew ?_))) b))); (try replace BW := Lib.hid (below_step BW.out (below_step (by (repeat (first | exact Below.refl _ _ | refine keep_alloc ?_ _ | refine Below.drew ?_))) b))); clear b); have D2 := Lib.hid r; clear r; ((try clear y0); (try clear y1); (try clear i2); have y0 := Y.out.two.1; have y1 := Y.out.two.2.1; have i2 := Y.out.inside); ((try clear m0); (try clear m1); (try clear i3); have m0 := MB.out.two.1; have m1 := MB.out.two.2.1; have i3 := MB.out.inside)))
              clear y0 y1 i2 m0 m1 i3
              go_loopg [20] k (fun kx s20 wr => ∃ i : Nat, s20 = .int .i64 (i : Int) ∧ i + kx = k ∧ Below w15.heap.size w15 wr)
              case atStart => exact ⟨0, rfl, by omega, Below.refl _ _⟩
              case round =>
                obtain ⟨i, rfl, hi', hbi⟩ := hrel
                have BI := Lib.hid hbi
                clear hbi
                by_cases hil : i < k
                · have ik : (i : Int) < (k : Int) := by omega
                  go_wp2
                  go_loopg [21] k (fun kx s21 wr => ∃ j : Nat, s21 = .int .i64 (j : Int) ∧ j + kx = k ∧ Below w15.heap.size w15 wr)
                  case atStart => exact ⟨0, rfl, by omega, BI.out⟩
                  case round =>
                    obtain ⟨j, rfl, hj', hbj⟩ := hrel
                    by_cases hjl : j < k
                    · have jk : (j : Int) < (k : Int) := by omega
                      have g0 := (D1.out.step hbj).cell hil
                      have g1 := (D1.out.step hbj).val hil hjl
                      have g2 := (D2.out.step hbj).cell hjl
                      have g3 := (D2.out.step hbj).val hjl hil
                      rw [F3.out] at g3
                      have BJ := Lib.hid hbj
                      clear hbj
                      generalize tb bs k (i : Int) (j : Int) = τ at *
                      go_upto_region 34 with (fail)
                      go_quiet (fail)
                      go_wp2
                      go_roundg (k - (j + 1))
                      case measure => omega
                      case rel => exact ⟨j + 1, by go_num, by omega, below_drawnN BJ.out _⟩
                    · obtain rfl : j = k := by omega
                      have BJ := Lib.hid hbj
                      clear hbj
                      go_wp2
                      go_roundg (j - (i + 1))
                      case measure => omega
                      case rel => exact ⟨i + 1, by go_num, by omega, BJ.out⟩
                · obtain rfl : i = k := by omega
                  go_wp2
                  go_ret
                  exact ⟨rfl, below_step BW.out BI.out⟩

end Go.Proofs.Ytkeimfkaoianmaa
