/- step: one call on both. -/
import Derived.Test.YtghcffpcblficaaPr
namespace Go.Proofs.Ytghcffpcblficaa
open Go.RowKit Go.Lib

def stepD (d : Dk) (call off n : Int) (s : ByteArray) (keep : List Int) : Dk :=
  if pk call 6 = 0 ∨ pk call 6 = 1 then writeD d off (cutB s 300) else if pk call 6 = 2 then syncD d else if pk call 6 = 3 then d else if pk call 6 = 4 then cutD d n else crashD d (keep.take 100) n
theorem Row.five {w : World} {g : Nat} {t : TypeId} {a b c d e : Value} (h : Row w g t #[a, b, c, d, e]) : w.cell? ⟨g, 0, none⟩ = some a ∧ w.cell? ⟨g, 1, none⟩ = some b ∧ w.cell? ⟨g, 2, none⟩ = some c ∧ w.cell? ⟨g, 3, none⟩ = some d ∧ w.cell? ⟨g, 4, none⟩ = some e := ⟨h.at rfl, h.at rfl, h.at rfl, h.at rfl, h.at rfl⟩
theorem Nums.take {w : World} {B : Nat} {A : Option Addr} {l : List Int} (h : Nums w B A l) (m : Nat) : Nums w B A (l.take m) := by
  rcases h with rfl | ⟨b, o, hA, hB, hc⟩
  · exact .inl (by simp)
  · refine .inr ⟨b, o, hA, hB, fun i r hr => hc i r ?_⟩
    rw [List.getElem?_take] at hr
    split at hr
    · exact hr
    · cases hr
set_option maxRecDepth 100000 in
set_option maxHeartbeats 16000000 in
theorem step_any {w W : World} {gd gr : Nat} {d : Dk} (T : Pr w W gd gr d d) (hp : d.pend.length ≤ 1000) (call off n : Int) (s : ByteArray) (KA : Option Addr) (keep : List Int) (kc : Nat) (c1 : In64 call) (o1 : In64 off) (n1 : In64 n) (hs : s.size ≤ 9223372036854775807) (hk : Nums w w.heap.size KA keep) (hkc : keep.length ≤ kc) (hc9 : kc ≤ 9223372036854775807) :
    Calls Try.prog 19 #[.pointer (some ⟨gd, 0, none⟩), .pointer (some ⟨gr, 0, none⟩), .agg #[.int .i64 call, .int .i64 off, .int .i64 n, .string s, .slice KA keep.length kc]] W fun e w' => e = .returned (.bool true) ∧ Pr w w' gd gr (stepD d call off n s keep) (stepD d call off n s keep) := by
  obtain ⟨K, hK⟩ : ∃ K, K = keep.length := ⟨_, rfl⟩
  rw [← hK] at hkc ⊢
  obtain ⟨W0, hW0⟩ : ∃ W0, W0 = W.alloc (.cells #[.int .i64 call, .int .i64 off, .int .i64 n, .string s, .slice KA K kc] 39) := ⟨_, rfl⟩
  obtain ⟨vb, hvb⟩ : ∃ vb, vb = W.heap.size := ⟨_, rfl⟩
  have rb : Row W0 vb 39 #[.int .i64 call, .int .i64 off, .int .i64 n, .string s, .slice KA K kc] := by rw [hW0, hvb]; exact Row.made _ _ _
  have t0 : Pr w W0 gd gr d d := by rw [hW0]; exact T.step (below_alloc _ _)
  have hpk := fun X => pick_any call 6 c1.1 c1.2 (by decide) (by decide) X
  have hsd : stepD d call off n s keep = if pk call 6 = 0 ∨ pk call 6 = 1 then writeD d off (cutB s 300) else if pk call 6 = 2 then syncD d else if pk call 6 = 3 then d else if pk call 6 = 4 then cutD d n else crashD d (keep.take 100) n := rfl
  have hrg := pk_range (c := call) (n := 6) (by decide)
  generalize pk call 6 = z at hpk hsd hrg
  have HC : Hid (∀ X : World, Calls Try.prog 22 #[.string s, .int .i64 300] X fun e w' => e = .returned (.string (cutB s 300)) ∧ w' = X) := Lib.hid (fun X => cut_s s 300 hs X)
  have hcs : (cutB s 300).size ≤ 9223372036854775807 := by rw [cutB_size]; omega
  obtain ⟨S, hS⟩ : ∃ S, S = cutB s 300 := ⟨_, rfl⟩
  rw [← hS] at HC hcs hsd
  obtain ⟨m, hm, hmm⟩ : ∃ m : Nat, m = (keep.take 100).length ∧ ∀ w : World, (Builtin.min_ #[3, 3] 3 #[.int .i64 K, .int .i64 100]).run Try.prog w = .ok (.int .i64 (m : Int)) w := by
    refine ⟨min 100 K, by rw [List.length_take, hK], fun w => ?_⟩
    simp only [Builtin.min_, List.foldlM_cons, List.foldlM_nil, Builtin.min2, pure_bind, bind_pure]
    simp only [Sem.run_pure]
    congr 2
    split <;> omega
  have hmk : m ≤ kc := by rw [hm, List.length_take]; omega
  have RB := Lib.hid rb; have T0 := Lib.hid t0; have PK := Lib.hid hpk; have SD := Lib.hid hsd; have HK := Lib.hid (hk.take 100); have HM := Lib.hid hm
  have hk100 : (keep.take 100).length ≤ 9223372036854775807 := by rw [List.length_take]; omega
  have HK1 := Lib.hid hk100
  obtain ⟨x0, x1, x2, x3, x4⟩ := rb.five
  clear T rb t0 hpk hsd hS hk hm hk100 hK
  have cs : z = 0 ∨ z = 1 ∨ z = 2 ∨ z = 3 ∨ z = 4 ∨ z = 5 := by omega
  clear hrg
  rcases cs with rfl | rfl | rfl | rfl | rfl | rfl
  · rw [show (if (0 : Int) = 0 ∨ (0 : Int) = 1 then writeD d off S else if (0 : Int) = 2 then syncD d else if (0 : Int) = 3 then d else if (0 : Int) = 4 then cutD d n else crashD d (keep.take 100) n) = writeD d off S from rfl] at SD
    go_enter Try.func19, Try.ntmps19
    go_upto_region 1 with (fail)
    rw [← hW0, ← hvb]
    clear hW0 hvb
    go_upto_region 5 with first | (go_at_call 15; (with_reducible refine (PK.out _).mono ?_); rintro e wp ⟨rfl, hwp⟩; subst wp) | (go_at_call 22; (with_reducible refine (HC.out _).mono ?_); rintro e wc ⟨rfl, hwc⟩; subst wc)
    have sx : W0.cell? ⟨vb, 1, none⟩ = some (.int .i64 off) ∧ W0.cell? ⟨vb, 2, none⟩ = some (.int .i64 n) := ⟨x1, x2⟩
    have T0d : Hid (Pr w W0.drew gd gr d d) := Lib.hid (T0.out.step (Below.refl _ W0).drew)
    have RBd : Hid (Row W0.drew vb 39 #[.int .i64 call, .int .i64 off, .int .i64 n, .string s, .slice KA K kc]) := Lib.hid RB.out.drawn
    have h1 := Lib.hid (T0d.out.wrD hp off o1 S hcs)
    clear x0 x1 x2 x3 x4
    refine wp_region_held_drew (S := (fun X : World => X.cell? ⟨vb, 1, none⟩ = some (.int .i64 off) ∧ X.cell? ⟨vb, 2, none⟩ = some (.int .i64 n))) (by kernel_rfl) ?_ (fun hHeld => ?_)
    · first | assumption | exact sx
    refine wpAnyH_take (i := 0) (oi := ⟨_, _, _, _, _, _⟩) (v := ?_) rfl (by kernel_rfl) (by kernel_rfl) (by kernel_rfl) (fun _ _ _ h => h) (Or.inl ⟨by rfl, ?_⟩) (by assumption) ?_
    rotate_left 1
    focus (intro w hSw; (try dsimp only at hSw); go_simp; (try with_reducible rfl))
    (try simp only [Act.put, List.setIfInBounds_toArray, List.set_cons_zero, List.set_cons_succ])
    refine wpAnyH_take (i := 1) (oi := ⟨_, _, _, _, _, _⟩) (v := ?_) rfl (by kernel_rfl) (by kernel_rfl) (by kernel_rfl) (fun _ _ _ h => h) (Or.inl ⟨by rfl, ?_⟩) (by assumption) ?_
    rotate_left 1
    focus (intro w hSw; (try dsimp only at hSw); go_simp; (try with_reducible rfl))
    (try simp only [Act.put, List.setIfInBounds_toArray, List.set_cons_zero, List.set_cons_succ])
    refine wpAnyH_take (i := 2) (oi := ⟨_, _, _, _, _, _⟩) (v := ?_) rfl (by kernel_rfl) (by kernel_rfl) (by kernel_rfl) (fun _ _ _ h => h) (Or.inl ⟨by rfl, ?_⟩) (by assumption) ?_
    rotate_left 1
    focus (intro w hSw; (try dsimp only at hSw); go_simp; (try with_reducible rfl))
    (try simp only [Act.put, List.setIfInBounds_toArray, List.set_cons_zero, List.set_cons_succ])
    refine wpAnyH_take (i := 3) (oi := ⟨_, _, _, _, _, _⟩) (v := ?_) rfl (by kernel_rfl) (by kernel_rfl) (by kernel_rfl) (fun _ _ _ h => h) (Or.inl ⟨by rfl, ?_⟩) (by assumption) ?_
    rotate_left 1
    focus (intro w hSw; (try dsimp only at hSw); go_simp; (try with_reducible rfl))
    (try simp only [Act.put, List.setIfInBounds_toArray, List.set_cons_zero, List.set_cons_succ])
    refine wpAnyH_take (i := 5) (oi := ⟨_, _, _, _, _, _⟩) (v := ?_) rfl (by kernel_rfl) (by kernel_rfl) (by kernel_rfl) (fun _ _ _ h => h) (Or.inl ⟨by rfl, ?_⟩) (by assumption) ?_
    rotate_left 1
    focus (intro w hSw; (try dsimp only at hSw); go_simp; (try with_reducible rfl))
    (try simp only [Act.put, List.setIfInBounds_toArray, List.set_cons_zero, List.set_cons_succ])
    refine wpAnyH_take (i := 6) (oi := ⟨_, _, _, _, _, _⟩) (v := ?_) rfl (by kernel_rfl) (by kernel_rfl) (by kernel_rfl) (fun _ _ _ h => h) (Or.inl ⟨by rfl, ?_⟩) (by assumption) ?_
    rotate_left 1
    focus (intro w hSw; (try dsimp only at hSw); go_simp; (try with_reducible rfl))
    (try simp only [Act.put, List.setIfInBounds_toArray, List.set_cons_zero, List.set_cons_succ])
    refine wpAnyH_take (i := 7) (oi := ⟨_, _, _, _, _, _⟩) (v := ?_) rfl (by kernel_rfl) (by kernel_rfl) (by kernel_rfl) (fun _ _ _ h => h) (Or.inl ⟨by rfl, ?_⟩) (by assumption) ?_
    rotate_left 1
    focus (intro w hSw; (try dsimp only at hSw); go_simp; (try with_reducible rfl))
    (try simp only [Act.put, List.setIfInBounds_toArray, List.set_cons_zero, List.set_cons_succ])
    refine wpAnyH_take (i := 8) (oi := ⟨_, _, _, _, _, _⟩) (v := ?_) rfl (by kernel_rfl) (by kernel_rfl) (by kernel_rfl) (fun _ _ _ h => h) (Or.inl ⟨by rfl, ?_⟩) (by assumption) ?_
    rotate_left 1
    focus (intro w hSw; (try dsimp only at hSw); go_simp; (try with_reducible rfl))
    (try simp only [Act.put, List.setIfInBounds_toArray, List.set_cons_zero, List.set_cons_succ])
    refine wpAnyH_ready (rs := [4]) (by kernel_rfl) (by simp) ?_
    refine AllReadyH.cons (o := ⟨_, _, _, _, _, _⟩) rfl (fun K hK => ?_) ?_
    · go_simp
      (with_reducible refine (h1.out).mono ?_)
      rintro e w7 ⟨rfl, t7, bk⟩
      have rb7 := bk _ _ RBd.out
      have sx7 : w7.cell? ⟨vb, 1, none⟩ = some (.int .i64 off) ∧ w7.cell? ⟨vb, 2, none⟩ = some (.int .i64 n) := ⟨rb7.at rfl, rb7.at rfl⟩
      have h2 := Lib.hid (t7.wrR hp off o1 S hcs)
      have RB7 := Lib.hid rb7
      clear t7 bk rb7
      refine hK.out _ _ ?_ (fun hHeld => ?_)
      · first | assumption | exact sx
      clear hK K
      (try simp only [Act.put, List.setIfInBounds_toArray, List.set_cons_zero, List.set_cons_succ])
      refine wpAnyH_ready (rs := [9]) (by kernel_rfl) (by simp) ?_
      refine AllReadyH.cons (o := ⟨_, _, _, _, _, _⟩) rfl (fun K hK => ?_) ?_
      · go_simp
        (with_reducible refine (h2.out).mono ?_)
        rintro e w8 ⟨rfl, t8, bk⟩
        have rb8 := bk _ _ RB7.out
        have sx8 : w8.cell? ⟨vb, 1, none⟩ = some (.int .i64 off) ∧ w8.cell? ⟨vb, 2, none⟩ = some (.int .i64 n) := ⟨rb8.at rfl, rb8.at rfl⟩
        have T8 := Lib.hid t8
        clear t8 bk rb8
        refine hK.out _ _ ?_ (fun hHeld => ?_)
        · first | assumption | exact sx
        clear hK K
        (try simp only [Act.put, List.setIfInBounds_toArray, List.set_cons_zero, List.set_cons_succ])
        refine wpAnyH_take (i := 10) (oi := ⟨_, _, _, _, _, _⟩) (v := ?_) rfl (by kernel_rfl) (by kernel_rfl) (by kernel_rfl) (fun _ _ _ h => h) (Or.inl ⟨by rfl, ?_⟩) (by assumption) ?_
        rotate_left 1
        focus (intro w hSw; (try dsimp only at hSw); go_simp; (try with_reducible rfl))
        (try simp only [Act.put, List.setIfInBounds_toArray, List.set_cons_zero, List.set_cons_succ])
        refine wpAnyH_take (i := 11) (oi := ⟨_, _, _, _, _, _⟩) (v := ?_) rfl (by kernel_rfl) (by kernel_rfl) (by kernel_rfl) (fun _ _ _ h => h) (Or.inl ⟨by rfl, ?_⟩) (by assumption) ?_
        rotate_left 1
        focus (intro w hSw; (try dsimp only at hSw); go_simp; (try with_reducible rfl))
        (try simp only [Act.put, List.setIfInBounds_toArray, List.set_cons_zero, List.set_cons_succ])
        refine wpAnyH_done (by kernel_rfl) ?_ _
        go_wp2
        go_ret
        exact ⟨by simp, by rw [SD.out]; exact T8.out⟩
      exact AllReadyH.nil
    exact AllReadyH.nil
  · rw [show (if (1 : Int) = 0 ∨ (1 : Int) = 1 then writeD d off S else if (1 : Int) = 2 then syncD d else if (1 : Int) = 3 then d else if (1 : Int) = 4 then cutD d n else crashD d (keep.take 100) n) = writeD d off S from rfl] at SD
    go_enter Try.func19, Try.ntmps19
    go_upto_region 1 with (fail)
    rw [← hW0, ← hvb]
    clear hW0 hvb
    go_upto_region 5 with first | (go_at_call 15; (with_reducible refine (PK.out _).mono ?_); rintro e wp ⟨rfl, hwp⟩; subst wp) | (go_at_call 22; (with_reducible refine (HC.out _).mono ?_); rintro e wc ⟨rfl, hwc⟩; subst wc)
    have sx : W0.cell? ⟨vb, 1, none⟩ = some (.int .i64 off) ∧ W0.cell? ⟨vb, 2, none⟩ = some (.int .i64 n) := ⟨x1, x2⟩
    have T0d : Hid (Pr w W0.drew gd gr d d) := Lib.hid (T0.out.step (Below.refl _ W0).drew)
    have RBd : Hid (Row W0.drew vb 39 #[.int .i64 call, .int .i64 off, .int .i64 n, .string s, .slice KA K kc]) := Lib.hid RB.out.drawn
    have h1 := Lib.hid (T0d.out.wrD hp off o1 S hcs)
    clear x0 x1 x2 x3 x4
    refine wp_region_held_drew (S := (fun X : World => X.cell? ⟨vb, 1, none⟩ = some (.int .i64 off) ∧ X.cell? ⟨vb, 2, none⟩ = some (.int .i64 n))) (by kernel_rfl) ?_ (fun hHeld => ?_)
    · first | assumption | exact sx
    refine wpAnyH_take (i := 0) (oi := ⟨_, _, _, _, _, _⟩) (v := ?_) rfl (by kernel_rfl) (by kernel_rfl) (by kernel_rfl) (fun _ _ _ h => h) (Or.inl ⟨by rfl, ?_⟩) (by assumption) ?_
    rotate_left 1
    focus (intro w hSw; (try dsimp only at hSw); go_simp; (try with_reducible rfl))
    (try simp only [Act.put, List.setIfInBounds_toArray, List.set_cons_zero, List.set_cons_succ])
    refine wpAnyH_take (i := 1) (oi := ⟨_, _, _, _, _, _⟩) (v := ?_) rfl (by kernel_rfl) (by kernel_rfl) (by kernel_rfl) (fun _ _ _ h => h) (Or.inl ⟨by rfl, ?_⟩) (by assumption) ?_
    rotate_left 1
    focus (intro w hSw; (try dsimp only at hSw); go_simp; (try with_reducible rfl))
    (try simp only [Act.put, List.setIfInBounds_toArray, List.set_cons_zero, List.set_cons_succ])
    refine wpAnyH_take (i := 2) (oi := ⟨_, _, _, _, _, _⟩) (v := ?_) rfl (by kernel_rfl) (by kernel_rfl) (by kernel_rfl) (fun _ _ _ h => h) (Or.inl ⟨by rfl, ?_⟩) (by assumption) ?_
    rotate_left 1
    focus (intro w hSw; (try dsimp only at hSw); go_simp; (try with_reducible rfl))
    (try simp only [Act.put, List.setIfInBounds_toArray, List.set_cons_zero, List.set_cons_succ])
    refine wpAnyH_take (i := 3) (oi := ⟨_, _, _, _, _, _⟩) (v := ?_) rfl (by kernel_rfl) (by kernel_rfl) (by kernel_rfl) (fun _ _ _ h => h) (Or.inl ⟨by rfl, ?_⟩) (by assumption) ?_
    rotate_left 1
    focus (intro w hSw; (try dsimp only at hSw); go_simp; (try with_reducible rfl))
    (try simp only [Act.put, List.setIfInBounds_toArray, List.set_cons_zero, List.set_cons_succ])
    refine wpAnyH_take (i := 5) (oi := ⟨_, _, _, _, _, _⟩) (v := ?_) rfl (by kernel_rfl) (by kernel_rfl) (by kernel_rfl) (fun _ _ _ h => h) (Or.inl ⟨by rfl, ?_⟩) (by assumption) ?_
    rotate_left 1
    focus (intro w hSw; (try dsimp only at hSw); go_simp; (try with_reducible rfl))
    (try simp only [Act.put, List.setIfInBounds_toArray, List.set_cons_zero, List.set_cons_succ])
    refine wpAnyH_take (i := 6) (oi := ⟨_, _, _, _, _, _⟩) (v := ?_) rfl (by kernel_rfl) (by kernel_rfl) (by kernel_rfl) (fun _ _ _ h => h) (Or.inl ⟨by rfl, ?_⟩) (by assumption) ?_
    rotate_left 1
    focus (intro w hSw; (try dsimp only at hSw); go_simp; (try with_reducible rfl))
    (try simp only [Act.put, List.setIfInBounds_toArray, List.set_cons_zero, List.set_cons_succ])
    refine wpAnyH_take (i := 7) (oi := ⟨_, _, _, _, _, _⟩) (v := ?_) rfl (by kernel_rfl) (by kernel_rfl) (by kernel_rfl) (fun _ _ _ h => h) (Or.inl ⟨by rfl, ?_⟩) (by assumption) ?_
    rotate_left 1
    focus (intro w hSw; (try dsimp only at hSw); go_simp; (try with_reducible rfl))
    (try simp only [Act.put, List.setIfInBounds_toArray, List.set_cons_zero, List.set_cons_succ])
    refine wpAnyH_take (i := 8) (oi := ⟨_, _, _, _, _, _⟩) (v := ?_) rfl (by kernel_rfl) (by kernel_rfl) (by kernel_rfl) (fun _ _ _ h => h) (Or.inl ⟨by rfl, ?_⟩) (by assumption) ?_
    rotate_left 1
    focus (intro w hSw; (try dsimp only at hSw); go_simp; (try with_reducible rfl))
    (try simp only [Act.put, List.setIfInBounds_toArray, List.set_cons_zero, List.set_cons_succ])
    refine wpAnyH_ready (rs := [4]) (by kernel_rfl) (by simp) ?_
    refine AllReadyH.cons (o := ⟨_, _, _, _, _, _⟩) rfl (fun K hK => ?_) ?_
    · go_simp
      (with_reducible refine (h1.out).mono ?_)
      rintro e w7 ⟨rfl, t7, bk⟩
      have rb7 := bk _ _ RBd.out
      have sx7 : w7.cell? ⟨vb, 1, none⟩ = some (.int .i64 off) ∧ w7.cell? ⟨vb, 2, none⟩ = some (.int .i64 n) := ⟨rb7.at rfl, rb7.at rfl⟩
      have h2 := Lib.hid (t7.wrR hp off o1 S hcs)
      have RB7 := Lib.hid rb7
      clear t7 bk rb7
      refine hK.out _ _ ?_ (fun hHeld => ?_)
      · first | assumption | exact sx
      clear hK K
      (try simp only [Act.put, List.setIfInBounds_toArray, List.set_cons_zero, List.set_cons_succ])
      refine wpAnyH_ready (rs := [9]) (by kernel_rfl) (by simp) ?_
      refine AllReadyH.cons (o := ⟨_, _, _, _, _, _⟩) rfl (fun K hK => ?_) ?_
      · go_simp
        (with_reducible refine (h2.out).mono ?_)
        rintro e w8 ⟨rfl, t8, bk⟩
        have rb8 := bk _ _ RB7.out
        have sx8 : w8.cell? ⟨vb, 1, none⟩ = some (.int .i64 off) ∧ w8.cell? ⟨vb, 2, none⟩ = some (.int .i64 n) := ⟨rb8.at rfl, rb8.at rfl⟩
        have T8 := Lib.hid t8
        clear t8 bk rb8
        refine hK.out _ _ ?_ (fun hHeld => ?_)
        · first | assumption | exact sx
        clear hK K
        (try simp only [Act.put, List.setIfInBounds_toArray, List.set_cons_zero, List.set_cons_succ])
        refine wpAnyH_take (i := 10) (oi := ⟨_, _, _, _, _, _⟩) (v := ?_) rfl (by kernel_rfl) (by kernel_rfl) (by kernel_rfl) (fun _ _ _ h => h) (Or.inl ⟨by rfl, ?_⟩) (by assumption) ?_
        rotate_left 1
        focus (intro w hSw; (try dsimp only at hSw); go_simp; (try with_reducible rfl))
        (try simp only [Act.put, List.setIfInBounds_toArray, List.set_cons_zero, List.set_cons_succ])
        refine wpAnyH_take (i := 11) (oi := ⟨_, _, _, _, _, _⟩) (v := ?_) rfl (by kernel_rfl) (by kernel_rfl) (by kernel_rfl) (fun _ _ _ h => h) (Or.inl ⟨by rfl, ?_⟩) (by assumption) ?_
        rotate_left 1
        focus (intro w hSw; (try dsimp only at hSw); go_simp; (try with_reducible rfl))
        (try simp only [Act.put, List.setIfInBounds_toArray, List.set_cons_zero, List.set_cons_succ])
        refine wpAnyH_done (by kernel_rfl) ?_ _
        go_wp2
        go_ret
        exact ⟨by simp, by rw [SD.out]; exact T8.out⟩
      exact AllReadyH.nil
    exact AllReadyH.nil
  · go_enter Try.func19, Try.ntmps19
    go_upto_region 1 with (fail)
    rw [← hW0, ← hvb]
    clear hW0 hvb
    have h1 := Lib.hid T0.out.syD
    rw [show (if (2 : Int) = 0 ∨ (2 : Int) = 1 then writeD d off S else if (2 : Int) = 2 then syncD d else if (2 : Int) = 3 then d else if (2 : Int) = 4 then cutD d n else crashD d (keep.take 100) n) = syncD d from rfl] at SD
    go_wp2_with first | (go_at_call 15; (with_reducible refine (PK.out _).mono ?_); rintro e wp ⟨rfl, hwp⟩; subst wp) | (go_at_call 23; (with_reducible refine (h1.out).mono ?_); rintro e w7 ⟨rfl, t7, _⟩; have h2 := Lib.hid (t7.syR hp); clear t7) | (go_at_call 31; (with_reducible refine (h2.out).mono ?_); rintro e w8 ⟨rfl, t8, _⟩; have T8 := Lib.hid t8; clear t8)
    go_ret
    exact ⟨by simp, by rw [SD.out]; exact T8.out⟩
  · go_enter Try.func19, Try.ntmps19
    go_upto_region 1 with (fail)
    rw [← hW0, ← hvb]
    clear hW0 hvb
    rw [show (if (3 : Int) = 0 ∨ (3 : Int) = 1 then writeD d off S else if (3 : Int) = 2 then syncD d else if (3 : Int) = 3 then d else if (3 : Int) = 4 then cutD d n else crashD d (keep.take 100) n) = d from rfl] at SD
    have h1 := Lib.hid (T0.out.rdD off n o1)
    have h2 := Lib.hid (T0.out.rdR hp off n o1)
    have hbx := Lib.hid (fun (Y : World) (b : Below W0.heap.size W0 Y) => T0.out.step b)
    generalize readS d off n = RS at h1 h2
    generalize readE d off n = RE at h1 h2
    go_upto_region 11 with first | (go_at_call 15; (with_reducible refine (PK.out _).mono ?_); rintro e wp ⟨rfl, hwp⟩; subst wp) | (go_at_call 14; (with_reducible refine (h1.out).mono ?_); rintro e w7 ⟨rfl, hw7⟩; subst w7) | (go_at_call 20; (with_reducible refine (h2.out).mono ?_); rintro e w8 ⟨rfl, b8⟩; have T8 := Lib.hid (hbx.out _ b8); clear b8)
    go_wp2
    go_ret
    exact ⟨by simp, by rw [SD.out]; exact T8.out⟩
  · rw [show (if (4 : Int) = 0 ∨ (4 : Int) = 1 then writeD d off S else if (4 : Int) = 2 then syncD d else if (4 : Int) = 3 then d else if (4 : Int) = 4 then cutD d n else crashD d (keep.take 100) n) = cutD d n from rfl] at SD
    go_enter Try.func19, Try.ntmps19
    go_upto_region 1 with (fail)
    rw [← hW0, ← hvb]
    clear hW0 hvb
    go_upto_region 13 with (go_at_call 15; (with_reducible refine (PK.out _).mono ?_); rintro e wp ⟨rfl, hwp⟩; subst wp)
    have sx : W0.cell? ⟨vb, 1, none⟩ = some (.int .i64 off) ∧ W0.cell? ⟨vb, 2, none⟩ = some (.int .i64 n) := ⟨x1, x2⟩
    have T0d : Hid (Pr w W0.drew gd gr d d) := Lib.hid (T0.out.step (Below.refl _ W0).drew)
    have RBd : Hid (Row W0.drew vb 39 #[.int .i64 call, .int .i64 off, .int .i64 n, .string s, .slice KA K kc]) := Lib.hid RB.out.drawn
    have h1 := Lib.hid (T0d.out.cuD n n1)
    clear x0 x1 x2 x3 x4
    refine wp_region_held_drew (S := (fun X : World => X.cell? ⟨vb, 1, none⟩ = some (.int .i64 off) ∧ X.cell? ⟨vb, 2, none⟩ = some (.int .i64 n))) (by kernel_rfl) ?_ (fun hHeld => ?_)
    · first | assumption | exact sx
    refine wpAnyH_take (i := 0) (oi := ⟨_, _, _, _, _, _⟩) (v := ?_) rfl (by kernel_rfl) (by kernel_rfl) (by kernel_rfl) (fun _ _ _ h => h) (Or.inl ⟨by rfl, ?_⟩) (by assumption) ?_
    rotate_left 1
    focus (intro w hSw; (try dsimp only at hSw); go_simp; (try with_reducible rfl))
    (try simp only [Act.put, List.setIfInBounds_toArray, List.set_cons_zero, List.set_cons_succ])
    refine wpAnyH_take (i := 1) (oi := ⟨_, _, _, _, _, _⟩) (v := ?_) rfl (by kernel_rfl) (by kernel_rfl) (by kernel_rfl) (fun _ _ _ h => h) (Or.inl ⟨by rfl, ?_⟩) (by assumption) ?_
    rotate_left 1
    focus (intro w hSw; (try dsimp only at hSw); go_simp; (try with_reducible rfl))
    (try simp only [Act.put, List.setIfInBounds_toArray, List.set_cons_zero, List.set_cons_succ])
    refine wpAnyH_take (i := 2) (oi := ⟨_, _, _, _, _, _⟩) (v := ?_) rfl (by kernel_rfl) (by kernel_rfl) (by kernel_rfl) (fun _ _ _ h => h) (Or.inl ⟨by rfl, ?_⟩) (by assumption) ?_
    rotate_left 1
    focus (intro w hSw; (try dsimp only at hSw); go_simp; (try with_reducible rfl))
    (try simp only [Act.put, List.setIfInBounds_toArray, List.set_cons_zero, List.set_cons_succ])
    refine wpAnyH_take (i := 4) (oi := ⟨_, _, _, _, _, _⟩) (v := ?_) rfl (by kernel_rfl) (by kernel_rfl) (by kernel_rfl) (fun _ _ _ h => h) (Or.inl ⟨by rfl, ?_⟩) (by assumption) ?_
    rotate_left 1
    focus (intro w hSw; (try dsimp only at hSw); go_simp; (try with_reducible rfl))
    (try simp only [Act.put, List.setIfInBounds_toArray, List.set_cons_zero, List.set_cons_succ])
    refine wpAnyH_take (i := 5) (oi := ⟨_, _, _, _, _, _⟩) (v := ?_) rfl (by kernel_rfl) (by kernel_rfl) (by kernel_rfl) (fun _ _ _ h => h) (Or.inl ⟨by rfl, ?_⟩) (by assumption) ?_
    rotate_left 1
    focus (intro w hSw; (try dsimp only at hSw); go_simp; (try with_reducible rfl))
    (try simp only [Act.put, List.setIfInBounds_toArray, List.set_cons_zero, List.set_cons_succ])
    refine wpAnyH_take (i := 6) (oi := ⟨_, _, _, _, _, _⟩) (v := ?_) rfl (by kernel_rfl) (by kernel_rfl) (by kernel_rfl) (fun _ _ _ h => h) (Or.inl ⟨by rfl, ?_⟩) (by assumption) ?_
    rotate_left 1
    focus (intro w hSw; (try dsimp only at hSw); go_simp; (try with_reducible rfl))
    (try simp only [Act.put, List.setIfInBounds_toArray, List.set_cons_zero, List.set_cons_succ])
    refine wpAnyH_ready (rs := [3]) (by kernel_rfl) (by simp) ?_
    refine AllReadyH.cons (o := ⟨_, _, _, _, _, _⟩) rfl (fun K hK => ?_) ?_
    · go_simp
      (with_reducible refine (h1.out).mono ?_)
      rintro e w7 ⟨rfl, t7, bk⟩
      have rb7 := bk _ _ RBd.out
      have sx7 : w7.cell? ⟨vb, 1, none⟩ = some (.int .i64 off) ∧ w7.cell? ⟨vb, 2, none⟩ = some (.int .i64 n) := ⟨rb7.at rfl, rb7.at rfl⟩
      have h2 := Lib.hid (t7.cuR n n1)
      have RB7 := Lib.hid rb7
      clear t7 bk rb7
      refine hK.out _ _ ?_ (fun hHeld => ?_)
      · first | assumption | exact sx
      clear hK K
      (try simp only [Act.put, List.setIfInBounds_toArray, List.set_cons_zero, List.set_cons_succ])
      refine wpAnyH_ready (rs := [7]) (by kernel_rfl) (by simp) ?_
      refine AllReadyH.cons (o := ⟨_, _, _, _, _, _⟩) rfl (fun K hK => ?_) ?_
      · go_simp
        (with_reducible refine (h2.out).mono ?_)
        rintro e w8 ⟨rfl, t8, bk⟩
        have rb8 := bk _ _ RB7.out
        have sx8 : w8.cell? ⟨vb, 1, none⟩ = some (.int .i64 off) ∧ w8.cell? ⟨vb, 2, none⟩ = some (.int .i64 n) := ⟨rb8.at rfl, rb8.at rfl⟩
        have T8 := Lib.hid t8
        clear t8 bk rb8
        refine hK.out _ _ ?_ (fun hHeld => ?_)
        · first | assumption | exact sx
        clear hK K
        (try simp only [Act.put, List.setIfInBounds_toArray, List.set_cons_zero, List.set_cons_succ])
        refine wpAnyH_take (i := 8) (oi := ⟨_, _, _, _, _, _⟩) (v := ?_) rfl (by kernel_rfl) (by kernel_rfl) (by kernel_rfl) (fun _ _ _ h => h) (Or.inl ⟨by rfl, ?_⟩) (by assumption) ?_
        rotate_left 1
        focus (intro w hSw; (try dsimp only at hSw); go_simp; (try with_reducible rfl))
        (try simp only [Act.put, List.setIfInBounds_toArray, List.set_cons_zero, List.set_cons_succ])
        refine wpAnyH_take (i := 9) (oi := ⟨_, _, _, _, _, _⟩) (v := ?_) rfl (by kernel_rfl) (by kernel_rfl) (by kernel_rfl) (fun _ _ _ h => h) (Or.inl ⟨by rfl, ?_⟩) (by assumption) ?_
        rotate_left 1
        focus (intro w hSw; (try dsimp only at hSw); go_simp; (try with_reducible rfl))
        (try simp only [Act.put, List.setIfInBounds_toArray, List.set_cons_zero, List.set_cons_succ])
        refine wpAnyH_done (by kernel_rfl) ?_ _
        go_wp2
        go_ret
        exact ⟨by simp, by rw [SD.out]; exact T8.out⟩
      exact AllReadyH.nil
    exact AllReadyH.nil
  · go_enter Try.func19, Try.ntmps19
    go_upto_region 1 with (fail)
    rw [← hW0, ← hvb]
    clear hW0 hvb
    rw [show (if (5 : Int) = 0 ∨ (5 : Int) = 1 then writeD d off S else if (5 : Int) = 2 then syncD d else if (5 : Int) = 3 then d else if (5 : Int) = 4 then cutD d n else crashD d (keep.take 100) n) = crashD d (keep.take 100) n from rfl] at SD
    have h1 := Lib.hid (T0.out.crR hp KA kc m (keep.take 100) HM.out HK.out HK1.out n n1)
    go_upto_region 16 with first | (go_at_call 15; (with_reducible refine (PK.out _).mono ?_); rintro e wp ⟨rfl, hwp⟩; subst wp) | (go_at_call 33; go_loud (refine (h1.out).mono ?_); rintro e w7 ⟨rfl, t7, bk⟩; have h2 := Lib.hid (t7.crD hp KA kc m (keep.take 100) HM.out HK.out HK1.out n); have rb7 := bk _ _ RB.out; clear x0 x1 x2 x3 x4 t7 bk; obtain ⟨x0, x1, x2, x3, x4⟩ := rb7.five; clear rb7)
    go_wp2_with (go_at_call 25; go_loud (refine (h2.out).mono ?_); rintro e w8 ⟨rfl, t8, bk⟩; have T8 := Lib.hid t8; clear t8 bk)
    go_ret
    exact ⟨rfl, by rw [SD.out]; exact T8.out⟩
end Go.Proofs.Ytghcffpcblficaa
