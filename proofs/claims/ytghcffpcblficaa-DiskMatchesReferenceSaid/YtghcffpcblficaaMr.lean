/- DiskMatchesReference: its walk. -/
import Derived.Test.YtghcffpcblficaaStp
import Derived.Test.YtghcffpcblficaaSn
namespace Go.Proofs.Ytghcffpcblficaa
open Go.RowKit Go.Lib

/-- A call among the arguments. -/
structure Sp where
  call : Int
  off : Int
  n : Int
  s : ByteArray
  KA : Option Addr
  keep : List Int
  kc : Nat
def spL (y : Sp) : List Value := [.int .i64 y.call, .int .i64 y.off, .int .i64 y.n, .string y.s, .slice y.KA y.keep.length y.kc]
theorem spL_len (y : Sp) : (spL y).length = 5 := rfl
def GoodS (W : World) (y : Sp) : Prop := In64 y.call ∧ In64 y.off ∧ In64 y.n ∧ y.s.size ≤ 9223372036854775807 ∧ Nums W W.heap.size y.KA y.keep ∧ y.keep.length ≤ y.kc ∧ y.kc ≤ 9223372036854775807
def SpsC (W : World) (A : Option Addr) (l : List Sp) : Prop := Cells W W.heap.size A 5 (l.map fun y => (spL y).toArray)
theorem SpsC.at {w : World} {A : Option Addr} {l : List Sp} (h : SpsC w A l) {i : Nat} {x : Sp} (hx : l[i]? = some x) : ∃ b o : Nat, A = some ⟨b, o, none⟩ ∧ ∀ W : World, Below w.heap.size w W → W.cell? ⟨b, o + i * 5, none⟩ = some (.int .i64 x.call) ∧ W.cell? ⟨b, o + i * 5 + 1, none⟩ = some (.int .i64 x.off) ∧ W.cell? ⟨b, o + i * 5 + 2, none⟩ = some (.int .i64 x.n) ∧ W.cell? ⟨b, o + i * 5 + 3, none⟩ = some (.string x.s) ∧ W.cell? ⟨b, o + i * 5 + 4, none⟩ = some (.slice x.KA x.keep.length x.kc) := by
  obtain ⟨b, o, hA, hB, c⟩ := h.get (i := i) (C := (spL x).toArray) (by rw [List.getElem?_map, hx]; rfl)
  refine ⟨b, o, hA, fun W hb => ?_⟩
  have k : ∀ (j : Nat) (v : Value), (spL x).toArray[j]? = some v → W.cell? ⟨b, o + i * 5 + j, none⟩ = some v := fun j v hv => by rw [hb.cell (p := ⟨b, o + i * 5 + j, none⟩) hB]; exact c j v hv
  exact ⟨k 0 _ rfl, k 1 _ rfl, k 2 _ rfl, k 3 _ rfl, k 4 _ rfl⟩
theorem stepD_len {d : Dk} (ho : d.Ok) (c off n : Int) (s : ByteArray) (keep : List Int) : (stepD d c off n s keep).dur.length = d.dur.length := by
  unfold stepD
  split
  · exact writeD_len _ _ _
  · split
    · exact syncD_len ho
    · split
      · rfl
      · split
        · exact cutD_len _ _
        · exact crashD_len ho _ _
theorem stepD_pend (d : Dk) (c off n : Int) (s : ByteArray) (keep : List Int) : (stepD d c off n s keep).pend.length ≤ d.pend.length + 1 := by
  unfold stepD
  split
  · unfold writeD
    split
    · unfold wroteD
      split <;> simp
    · omega
  · split
    · unfold syncD
      split
      · omega
      · simp
    · split
      · omega
      · split
        · unfold cutD
          split <;> simp
        · simp [crashD]
set_option maxRecDepth 100000 in
set_option maxHeartbeats 16000000 in
theorem mr_walk (size : Int) (s1 : In64 size) (l : List Sp) (A : Option Addr) (cap : Nat) (w : World) (hl : SpsC w A l) (hg : ∀ y ∈ l, GoodS w y) (h63 : l.length ≤ 9223372036854775807) :
    Calls Try.prog 4 #[.int .i64 size, .slice A l.length cap] w fun e w' => e = .returned (.bool true) ∧ Below w.heap.size w w' := by
  have SAN := Lib.hid sane_any
  obtain ⟨N, z, he, h1, hM, hz0, hpk⟩ : ∃ (N : Nat) (z : Int), (1 : Int) + z = N ∧ 1 ≤ N ∧ N ≤ 400 ∧ (0 ≤ z ∧ z < 400) ∧ ∀ W : World, Calls Try.prog 15 #[.int .i64 size, .int .i64 400] W fun e w' => e = .returned (.int .i64 z) ∧ w' = W := by
    have hl := pkn_lt (c := size) (n := 400) (by decide)
    exact ⟨pkn size 400 + 1, (pkn size 400 : Int), by omega, by omega, by omega, by omega, fun W => pickn_any size 400 s1.1 s1.2 (by decide) (by decide) W⟩
  have PK := Lib.hid hpk
  have NW := Lib.hid (fun W => new_any N h1 (by omega) W)
  have NR := Lib.hid (fun W => rnew_any N h1 (by omega) W)
  clear hpk s1
  obtain ⟨n, hn⟩ : ∃ n, n = l.length := ⟨_, rfl⟩
  rw [← hn] at h63 ⊢
  have HL := Lib.hid hl; have HG := Lib.hid hg; have HN := Lib.hid hn
  clear hl hg hn
  go_enter Try.func4, Try.ntmps4
  go_upto_region 2 with (go_at_call 12; (with_reducible refine (SAN.out _).mono ?_); rintro e w1 ⟨rfl, bs⟩; have B1 := Lib.hid bs; clear bs)
  go_upto_region 4 with first | (go_at_call 15; (with_reducible refine (PK.out _).mono ?_); rintro e w2 ⟨rfl, rfl⟩) | (go_at_call 13; (refine (NW.out _).mono ?_); rintro e w3 ⟨hd, rfl, mc, b3⟩; have MC := Lib.hid mc; have B3 := Lib.hid b3; clear mc b3)
  go_upto_region 5 with (go_at_call 18; (refine (NR.out _).mono ?_); rintro e w4 ⟨hr, rfl, mr, b4⟩; have MR := Lib.hid mr; have B4 := Lib.hid b4; clear mr b4)
  have tr : Pr w w4 hd.g hr.g (newD N) (newD N) := by
    have s1 := B1.out.size
    have s3 := B3.out.size
    refine ⟨hd, hr, rfl, rfl, (MC.out.step B4.out).less s1, MR.out.less (by omega), fun k h1 h2 => ?_, below_step (below_step B1.out B3.out) B4.out⟩
    have := MC.out.inside h1; have := MR.out.from h2; omega
  generalize hd.g = gd at *
  generalize hr.g = gr at *
  have TR := Lib.hid tr
  have ZL := Lib.hid (zeros_len N)
  clear tr MC MR B3 B4 B1 NW NR SAN PK he hz0
  go_wp2
  go_loopg [10, 11, 12, 13, 14] n (fun kx s10 s11 s12 s13 s14 wr => ∃ (k : Nat) (d : Dk), s10 = .int .i64 (k : Int) ∧ k + kx = n ∧ k ≤ 60 ∧ Pr w wr gd gr d d ∧ Hid (d.dur.length = N) ∧ d.pend.length ≤ k)
  case atStart => exact ⟨0, newD N, rfl, by omega, by omega, TR.out, ZL, by simp [newD]⟩
  case round =>
    clear TR ZL
    obtain ⟨k, d, rfl, hk, hk60, hM, HD, hpl⟩ := hrel
    by_cases hlt : k < n ∧ k < 60
    · obtain ⟨hlt, hlt2⟩ := hlt
      obtain ⟨p, hpk⟩ : ∃ p, l[k]? = some p := at_lt (by rw [← HN.out]; exact hlt)
      obtain ⟨g1, g2, g3, g4, g5, g6, g7⟩ := HG.out p (List.mem_of_getElem? hpk)
      obtain ⟨bb, o, rfl, hcl⟩ := HL.out.at hpk
      obtain ⟨pc, po, pn, ps, KA, keep, kc⟩ := p
      dsimp only at g1 g2 g3 g4 g5 g6 g7 hcl
      have kLi : (k : Int) < (n : Int) := by omega
      have kLj : (k : Int) < 60 := by omega
      have hst : ∀ W : World, Pr w W gd gr d d → _ := fun W T => step_any T (by omega) pc po pn ps KA keep kc g1 g2 g3 g4 g5 g6 g7
      have hDl := stepD_len hM.p.1 pc po pn ps keep
      have hDp := stepD_pend d pc po pn ps keep
      rw [HD.out] at hDl
      generalize stepD d pc po pn ps keep = d2 at hst hDl hDp
      have hp2 : d2.pend.length ≤ k + 1 := by omega
      obtain ⟨KL, hKL⟩ : ∃ KL, KL = keep.length := ⟨_, rfl⟩
      rw [← hKL] at hst hcl
      have HST := Lib.hid hst; have HCL := Lib.hid hcl; have HDL := Lib.hid hDl
      have sx := hcl wr hM.bel
      have T0d : Hid (Pr w wr.drew gd gr d d) := Lib.hid (hM.step (Below.refl _ wr).drew)
      clear hst hcl hDl hDp hpk g1 g2 g3 g4 g5 g6 g7 hM HD hpl hKL
      go_upto_region 10 with (fail)
      have h1 := Lib.hid (HST.out _ T0d.out)
      refine wp_region_held_drew (S := (fun X : World => X.cell? ⟨bb, o + k * 5, none⟩ = some (.int .i64 pc) ∧ X.cell? ⟨bb, o + k * 5 + 1, none⟩ = some (.int .i64 po) ∧ X.cell? ⟨bb, o + k * 5 + 2, none⟩ = some (.int .i64 pn) ∧ X.cell? ⟨bb, o + k * 5 + 3, none⟩ = some (.string ps) ∧ X.cell? ⟨bb, o + k * 5 + 4, none⟩ = some (.slice KA KL kc))) (by kernel_rfl) ?_ (fun hHeld => ?_)
      · first | assumption | exact sx
      refine wpAnyH_take (i := 0) (oi := ⟨_, _, _, _, _, _⟩) (v := ?_) rfl (by kernel_rfl) (by kernel_rfl) (by kernel_rfl) (fun _ _ _ h => h) (Or.inl ⟨by rfl, ?_⟩) (by assumption) ?_
      rotate_left 1
      focus (intro w hSw; (try dsimp only at hSw); go_simp; (try with_reducible rfl))
      (try simp only [Act.put, List.setIfInBounds_toArray, List.set_cons_zero, List.set_cons_succ])
      refine wpAnyH_take (i := 1) (oi := ⟨_, _, _, _, _, _⟩) (v := ?_) rfl (by kernel_rfl) (by kernel_rfl) (by kernel_rfl) (fun _ _ _ h => h) (Or.inl ⟨by rfl, ?_⟩) (by assumption) ?_
      rotate_left 1
      focus (intro w hSw; (try dsimp only at hSw); go_simp; (try with_reducible rfl))
      (try simp only [Act.put, List.setIfInBounds_toArray, List.set_cons_zero, List.set_cons_succ])
      refine wpAnyH_take (i := 2) (oi := ⟨_, _, _, _, _, _⟩) (v := ?_) rfl (by kernel_rfl) (by kernel_rfl) (by kernel_rfl) (fun _ _ _ h => h) (Or.inl ⟨by rfl, ?_⟩) (by assumption) ?_
      rotate_left 1
      focus (intro w hSw; (try dsimp only at hSw); go_simp; (try with_reducible rfl))
      (try simp only [Act.put, List.setIfInBounds_toArray, List.set_cons_zero, List.set_cons_succ])
      refine wpAnyH_take (i := 3) (oi := ⟨_, _, _, _, _, _⟩) (v := ?_) rfl (by kernel_rfl) (by kernel_rfl) (by kernel_rfl) (fun _ _ _ h => h) (Or.inl ⟨by rfl, ?_⟩) (by assumption) ?_
      rotate_left 1
      focus (intro w hSw; (try dsimp only at hSw); go_simp; (try with_reducible rfl))
      (try simp only [Act.put, List.setIfInBounds_toArray, List.set_cons_zero, List.set_cons_succ])
      refine wpAnyH_take (i := 4) (oi := ⟨_, _, _, _, _, _⟩) (v := ?_) rfl (by kernel_rfl) (by kernel_rfl) (by kernel_rfl) (fun _ _ _ h => h) (Or.inl ⟨by rfl, ?_⟩) (by assumption) ?_
      rotate_left 1
      focus (intro w hSw; (try dsimp only at hSw); go_simp; (try with_reducible rfl))
      (try simp only [Act.put, List.setIfInBounds_toArray, List.set_cons_zero, List.set_cons_succ])
      refine wpAnyH_take (i := 5) (oi := ⟨_, _, _, _, _, _⟩) (v := ?_) rfl (by kernel_rfl) (by kernel_rfl) (by kernel_rfl) (fun _ _ _ h => h) (Or.inl ⟨by rfl, ?_⟩) (by assumption) ?_
      rotate_left 1
      focus (intro w hSw; (try dsimp only at hSw); go_simp; (try with_reducible rfl))
      (try simp only [Act.put, List.setIfInBounds_toArray, List.set_cons_zero, List.set_cons_succ])
      refine wpAnyH_ready (rs := [6]) (by kernel_rfl) (by simp) ?_
      refine AllReadyH.cons (o := ⟨_, _, _, _, _, _⟩) rfl (fun K hK => ?_) ?_
      · go_simp
        (with_reducible refine (h1.out).mono ?_)
        rintro e w7 ⟨rfl, t7⟩
        have sx7 := HCL.out w7 t7.bel
        obtain ⟨LA, lc, lc7⟩ := t7.lcell
        have HP7 := Lib.hid t7.pending
        have hz7 := t7.size
        rw [HDL.out] at hz7
        have HZ7 := Lib.hid hz7
        have HR7 := Lib.hid (t7.rdD 0 N ⟨by decide, by decide⟩)
        have HX7 := Lib.hid (t7.rdR (by omega) 0 N ⟨by decide, by decide⟩)
        have HS7 := Lib.hid (fun (Y : World) (b : Below w7.heap.size w7 Y) => t7.step b)
        obtain ⟨P, hP⟩ : ∃ P, P = d2.pend.length := ⟨_, rfl⟩
        rw [← hP] at lc7 HP7
        clear t7 hz7 hP
        refine hK.out _ _ ?_ (fun hHeld => ?_)
        · first | assumption | exact sx
        clear hK K
        (try simp only [Act.put, List.setIfInBounds_toArray, List.set_cons_zero, List.set_cons_succ])
        refine wpAnyH_take (i := 7) (oi := ⟨_, _, _, _, _, _⟩) (v := ?_) rfl (by kernel_rfl) (by kernel_rfl) (by kernel_rfl) (fun _ _ _ h => h) (Or.inl ⟨by rfl, ?_⟩) (by assumption) ?_
        rotate_left 1
        focus (intro w hSw; (try dsimp only at hSw); go_simp; (try with_reducible rfl))
        (try simp only [Act.put, List.setIfInBounds_toArray, List.set_cons_zero, List.set_cons_succ])
        refine wpAnyH_take (i := 8) (oi := ⟨_, _, _, _, _, _⟩) (v := ?_) rfl (by kernel_rfl) (by kernel_rfl) (by kernel_rfl) (fun _ _ _ h => h) (Or.inl ⟨by rfl, ?_⟩) (by assumption) ?_
        rotate_left 1
        focus (intro w hSw; (try dsimp only at hSw); go_simp; (try with_reducible rfl))
        (try simp only [Act.put, List.setIfInBounds_toArray, List.set_cons_zero, List.set_cons_succ])
        refine wpAnyH_take (i := 9) (oi := ⟨_, _, _, _, _, _⟩) (v := ?_) rfl (by kernel_rfl) (by kernel_rfl) (by kernel_rfl) (fun _ _ _ h => h) (Or.inl ⟨by rfl, ?_⟩) (by assumption) ?_
        rotate_left 1
        focus (intro w hSw; (try dsimp only at hSw); go_simp; (try with_reducible rfl))
        (try simp only [Act.put, List.setIfInBounds_toArray, List.set_cons_zero, List.set_cons_succ])
        refine wpAnyH_take (i := 11) (oi := ⟨_, _, _, _, _, _⟩) (v := ?_) rfl (by kernel_rfl) (by kernel_rfl) (by kernel_rfl) (fun _ _ _ h => h) (Or.inl ⟨by rfl, ?_⟩) (by assumption) ?_
        rotate_left 1
        focus (intro w hSw; (try dsimp only at hSw); go_simp; (try with_reducible rfl))
        (try simp only [Act.put, List.setIfInBounds_toArray, List.set_cons_zero, List.set_cons_succ])
        refine wpAnyH_take (i := 12) (oi := ⟨_, _, _, _, _, _⟩) (v := ?_) rfl (by kernel_rfl) (by kernel_rfl) (by kernel_rfl) (fun _ _ _ h => h) (Or.inl ⟨by rfl, ?_⟩) (by assumption) ?_
        rotate_left 1
        focus (intro w hSw; (try dsimp only at hSw); go_simp; (try with_reducible rfl))
        (try simp only [Act.put, List.setIfInBounds_toArray, List.set_cons_zero, List.set_cons_succ])
        refine wpAnyH_take (i := 13) (oi := ⟨_, _, _, _, _, _⟩) (v := ?_) rfl (by kernel_rfl) (by kernel_rfl) (by kernel_rfl) (fun _ _ _ h => h) (Or.inl ⟨by rfl, ?_⟩) (by assumption) ?_
        rotate_left 1
        focus (intro w hSw; (try dsimp only at hSw); go_simp; (try with_reducible rfl))
        (try simp only [Act.put, List.setIfInBounds_toArray, List.set_cons_zero, List.set_cons_succ])
        refine wpAnyH_ready (rs := [10, 14]) (by kernel_rfl) (by simp) ?_
        refine AllReadyH.cons (o := ⟨_, _, _, _, _, _⟩) rfl (fun K hK => ?_) ?_
        · go_simp
          (with_reducible refine (HP7.out).mono ?_)
          rintro e wq ⟨rfl, hwq⟩
          subst wq
          refine hK.out _ _ ?_ (fun hHeld => ?_)
          · first | assumption | exact sx
          clear hK K
          (try simp only [Act.put, List.setIfInBounds_toArray, List.set_cons_zero, List.set_cons_succ])
          refine wpAnyH_ready (rs := [14]) (by kernel_rfl) (by simp) ?_
          refine AllReadyH.cons (o := ⟨_, _, _, _, _, _⟩) rfl (fun K hK => ?_) ?_
          · go_simp
            refine hK.out _ _ ?_ (fun hHeld => ?_)
            · first | assumption | exact sx
            clear hK K
            (try simp only [Act.put, List.setIfInBounds_toArray, List.set_cons_zero, List.set_cons_succ])
            refine wpAnyH_take (i := 15) (oi := ⟨_, _, _, _, _, _⟩) (v := ?_) rfl (by kernel_rfl) (by kernel_rfl) (by kernel_rfl) (fun _ _ _ h => h) (Or.inl ⟨by rfl, ?_⟩) (by assumption) ?_
            rotate_left 1
            focus (intro w hSw; (try dsimp only at hSw); go_simp; (try with_reducible rfl))
            (try simp only [Act.put, List.setIfInBounds_toArray, List.set_cons_zero, List.set_cons_succ])
            refine wpAnyH_take (i := 16) (oi := ⟨_, _, _, _, _, _⟩) (v := ?_) rfl (by kernel_rfl) (by kernel_rfl) (by kernel_rfl) (fun _ _ _ h => h) (Or.inl ⟨by rfl, ?_⟩) (by assumption) ?_
            rotate_left 1
            focus (intro w hSw; (try dsimp only at hSw); go_simp; (try with_reducible rfl))
            (try simp only [Act.put, List.setIfInBounds_toArray, List.set_cons_zero, List.set_cons_succ])
            refine wpAnyH_take (i := 17) (oi := ⟨_, _, _, _, _, _⟩) (v := ?_) rfl (by kernel_rfl) (by kernel_rfl) (by kernel_rfl) (fun _ _ _ h => h) (Or.inl ⟨by rfl, ?_⟩) (by assumption) ?_
            rotate_left 1
            focus (intro w hSw; (try dsimp only at hSw); go_simp; (try with_reducible rfl))
            (try simp only [Act.put, List.setIfInBounds_toArray, List.set_cons_zero, List.set_cons_succ])
            refine wpAnyH_take (i := 18) (oi := ⟨_, _, _, _, _, _⟩) (v := ?_) rfl (by kernel_rfl) (by kernel_rfl) (by kernel_rfl) (fun _ _ _ h => h) (Or.inl ⟨by rfl, ?_⟩) (by assumption) ?_
            rotate_left 1
            focus (intro w hSw; (try dsimp only at hSw); go_simp; (try with_reducible rfl))
            (try simp only [Act.put, List.setIfInBounds_toArray, List.set_cons_zero, List.set_cons_succ])
            refine wpAnyH_take (i := 19) (oi := ⟨_, _, _, _, _, _⟩) (v := ?_) rfl (by kernel_rfl) (by kernel_rfl) (by kernel_rfl) (fun _ _ _ h => h) (Or.inl ⟨by rfl, ?_⟩) (by assumption) ?_
            rotate_left 1
            focus (intro w hSw; (try dsimp only at hSw); go_simp; (try with_reducible rfl))
            (try simp only [Act.put, List.setIfInBounds_toArray, List.set_cons_zero, List.set_cons_succ])
            refine wpAnyH_take (i := 21) (oi := ⟨_, _, _, _, _, _⟩) (v := ?_) rfl (by kernel_rfl) (by kernel_rfl) (by kernel_rfl) (fun _ _ _ h => h) (Or.inl ⟨by rfl, ?_⟩) (by assumption) ?_
            rotate_left 1
            focus (intro w hSw; (try dsimp only at hSw); go_simp; (try with_reducible rfl))
            (try simp only [Act.put, List.setIfInBounds_toArray, List.set_cons_zero, List.set_cons_succ])
            refine wpAnyH_ready (rs := [20]) (by kernel_rfl) (by simp) ?_
            refine AllReadyH.cons (o := ⟨_, _, _, _, _, _⟩) rfl (fun K hK => ?_) ?_
            · go_simp
              (with_reducible refine (HZ7.out).mono ?_)
              rintro e wq ⟨rfl, hwq⟩
              subst wq
              refine hK.out _ _ ?_ (fun hHeld => ?_)
              · first | assumption | exact sx
              clear hK K
              (try simp only [Act.put, List.setIfInBounds_toArray, List.set_cons_zero, List.set_cons_succ])
              refine wpAnyH_take (i := 22) (oi := ⟨_, _, _, _, _, _⟩) (v := ?_) rfl (by kernel_rfl) (by kernel_rfl) (by kernel_rfl) (fun _ _ _ h => h) (Or.inl ⟨by rfl, ?_⟩) (by assumption) ?_
              rotate_left 1
              focus (intro w hSw; (try dsimp only at hSw); go_simp; (try with_reducible rfl))
              (try simp only [Act.put, List.setIfInBounds_toArray, List.set_cons_zero, List.set_cons_succ])
              refine wpAnyH_take (i := 23) (oi := ⟨_, _, _, _, _, _⟩) (v := ?_) rfl (by kernel_rfl) (by kernel_rfl) (by kernel_rfl) (fun _ _ _ h => h) (Or.inl ⟨by rfl, ?_⟩) (by assumption) ?_
              rotate_left 1
              focus (intro w hSw; (try dsimp only at hSw); go_simp; (try with_reducible rfl))
              (try simp only [Act.put, List.setIfInBounds_toArray, List.set_cons_zero, List.set_cons_succ])
              refine wpAnyH_done (by kernel_rfl) ?_ _
              clear sx7 lc7 HP7 HZ7 hHeld
              generalize readS d2 0 N = RS at HR7 HX7
              generalize readE d2 0 N = RE at HR7 HX7
              go_wp2_with first | (go_at_call 14; (with_reducible refine (HR7.out).mono ?_); rintro e w8 ⟨rfl, hw8⟩; subst w8) | (go_at_call 20; (with_reducible refine (HX7.out).mono ?_); rintro e w9 ⟨rfl, b9⟩; have T9 := Lib.hid (HS7.out _ b9); clear b9)
              go_roundg (n - (k + 1))
              case measure => omega
              case rel => exact ⟨k + 1, d2, by go_num, by omega, by omega, T9.out, HDL, hp2⟩
            exact AllReadyH.nil
          exact AllReadyH.nil
        refine AllReadyH.cons (o := ⟨_, _, _, _, _, _⟩) rfl (fun K hK => ?_) ?_
        · go_simp
          refine hK.out _ _ ?_ (fun hHeld => ?_)
          · first | assumption | exact sx
          clear hK K
          (try simp only [Act.put, List.setIfInBounds_toArray, List.set_cons_zero, List.set_cons_succ])
          refine wpAnyH_take (i := 15) (oi := ⟨_, _, _, _, _, _⟩) (v := ?_) rfl (by kernel_rfl) (by kernel_rfl) (by kernel_rfl) (fun _ _ _ h => h) (Or.inl ⟨by rfl, ?_⟩) (by assumption) ?_
          rotate_left 1
          focus (intro w hSw; (try dsimp only at hSw); go_simp; (try with_reducible rfl))
          (try simp only [Act.put, List.setIfInBounds_toArray, List.set_cons_zero, List.set_cons_succ])
          refine wpAnyH_ready (rs := [10]) (by kernel_rfl) (by simp) ?_
          refine AllReadyH.cons (o := ⟨_, _, _, _, _, _⟩) rfl (fun K hK => ?_) ?_
          · go_simp
            (with_reducible refine (HP7.out).mono ?_)
            rintro e wq ⟨rfl, hwq⟩
            subst wq
            refine hK.out _ _ ?_ (fun hHeld => ?_)
            · first | assumption | exact sx
            clear hK K
            (try simp only [Act.put, List.setIfInBounds_toArray, List.set_cons_zero, List.set_cons_succ])
            refine wpAnyH_take (i := 16) (oi := ⟨_, _, _, _, _, _⟩) (v := ?_) rfl (by kernel_rfl) (by kernel_rfl) (by kernel_rfl) (fun _ _ _ h => h) (Or.inl ⟨by rfl, ?_⟩) (by assumption) ?_
            rotate_left 1
            focus (intro w hSw; (try dsimp only at hSw); go_simp; (try with_reducible rfl))
            (try simp only [Act.put, List.setIfInBounds_toArray, List.set_cons_zero, List.set_cons_succ])
            refine wpAnyH_take (i := 17) (oi := ⟨_, _, _, _, _, _⟩) (v := ?_) rfl (by kernel_rfl) (by kernel_rfl) (by kernel_rfl) (fun _ _ _ h => h) (Or.inl ⟨by rfl, ?_⟩) (by assumption) ?_
            rotate_left 1
            focus (intro w hSw; (try dsimp only at hSw); go_simp; (try with_reducible rfl))
            (try simp only [Act.put, List.setIfInBounds_toArray, List.set_cons_zero, List.set_cons_succ])
            refine wpAnyH_take (i := 18) (oi := ⟨_, _, _, _, _, _⟩) (v := ?_) rfl (by kernel_rfl) (by kernel_rfl) (by kernel_rfl) (fun _ _ _ h => h) (Or.inl ⟨by rfl, ?_⟩) (by assumption) ?_
            rotate_left 1
            focus (intro w hSw; (try dsimp only at hSw); go_simp; (try with_reducible rfl))
            (try simp only [Act.put, List.setIfInBounds_toArray, List.set_cons_zero, List.set_cons_succ])
            refine wpAnyH_take (i := 19) (oi := ⟨_, _, _, _, _, _⟩) (v := ?_) rfl (by kernel_rfl) (by kernel_rfl) (by kernel_rfl) (fun _ _ _ h => h) (Or.inl ⟨by rfl, ?_⟩) (by assumption) ?_
            rotate_left 1
            focus (intro w hSw; (try dsimp only at hSw); go_simp; (try with_reducible rfl))
            (try simp only [Act.put, List.setIfInBounds_toArray, List.set_cons_zero, List.set_cons_succ])
            refine wpAnyH_take (i := 21) (oi := ⟨_, _, _, _, _, _⟩) (v := ?_) rfl (by kernel_rfl) (by kernel_rfl) (by kernel_rfl) (fun _ _ _ h => h) (Or.inl ⟨by rfl, ?_⟩) (by assumption) ?_
            rotate_left 1
            focus (intro w hSw; (try dsimp only at hSw); go_simp; (try with_reducible rfl))
            (try simp only [Act.put, List.setIfInBounds_toArray, List.set_cons_zero, List.set_cons_succ])
            refine wpAnyH_ready (rs := [20]) (by kernel_rfl) (by simp) ?_
            refine AllReadyH.cons (o := ⟨_, _, _, _, _, _⟩) rfl (fun K hK => ?_) ?_
            · go_simp
              (with_reducible refine (HZ7.out).mono ?_)
              rintro e wq ⟨rfl, hwq⟩
              subst wq
              refine hK.out _ _ ?_ (fun hHeld => ?_)
              · first | assumption | exact sx
              clear hK K
              (try simp only [Act.put, List.setIfInBounds_toArray, List.set_cons_zero, List.set_cons_succ])
              refine wpAnyH_take (i := 22) (oi := ⟨_, _, _, _, _, _⟩) (v := ?_) rfl (by kernel_rfl) (by kernel_rfl) (by kernel_rfl) (fun _ _ _ h => h) (Or.inl ⟨by rfl, ?_⟩) (by assumption) ?_
              rotate_left 1
              focus (intro w hSw; (try dsimp only at hSw); go_simp; (try with_reducible rfl))
              (try simp only [Act.put, List.setIfInBounds_toArray, List.set_cons_zero, List.set_cons_succ])
              refine wpAnyH_take (i := 23) (oi := ⟨_, _, _, _, _, _⟩) (v := ?_) rfl (by kernel_rfl) (by kernel_rfl) (by kernel_rfl) (fun _ _ _ h => h) (Or.inl ⟨by rfl, ?_⟩) (by assumption) ?_
              rotate_left 1
              focus (intro w hSw; (try dsimp only at hSw); go_simp; (try with_reducible rfl))
              (try simp only [Act.put, List.setIfInBounds_toArray, List.set_cons_zero, List.set_cons_succ])
              refine wpAnyH_done (by kernel_rfl) ?_ _
              clear sx7 lc7 HP7 HZ7 hHeld
              generalize readS d2 0 N = RS at HR7 HX7
              generalize readE d2 0 N = RE at HR7 HX7
              go_wp2_with first | (go_at_call 14; (with_reducible refine (HR7.out).mono ?_); rintro e w8 ⟨rfl, hw8⟩; subst w8) | (go_at_call 20; (with_reducible refine (HX7.out).mono ?_); rintro e w9 ⟨rfl, b9⟩; have T9 := Lib.hid (HS7.out _ b9); clear b9)
              go_roundg (n - (k + 1))
              case measure => omega
              case rel => exact ⟨k + 1, d2, by go_num, by omega, by omega, T9.out, HDL, hp2⟩
            exact AllReadyH.nil
          exact AllReadyH.nil
        exact AllReadyH.nil
      exact AllReadyH.nil
    · have fin := Lib.hid hM.bel
      clear hM HD hpl
      by_cases h1 : k < n
      · obtain rfl : k = 60 := by omega
        have h2 : (60 : Int) < (n : Int) := by omega
        clear hlt
        go_wp2
        go_ret
        exact ⟨rfl, fin.out⟩
      · obtain rfl : k = n := by omega
        clear hlt
        go_wp2
        go_ret
        exact ⟨rfl, fin.out⟩
end Go.Proofs.Ytghcffpcblficaa
