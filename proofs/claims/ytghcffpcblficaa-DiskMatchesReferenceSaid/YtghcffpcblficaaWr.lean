/- Write. -/
import Derived.Test.YtghcffpcblficaaSy
namespace Go.Proofs.Ytghcffpcblficaa
open Go.RowKit Go.Lib

theorem strClone_any (s : ByteArray) (hs : s.size ≤ 4194304) (w : World) : Calls Try.prog 35 #[.string s] w fun e w' => e = .returned (.string s) ∧ Below w.heap.size w w' := by
  have hc := clone_any s hs
  go_enter Try.func35, Try.ntmps35
  go_wp2_with (go_at_call 45; (with_reducible refine (hc _).mono ?_); rintro e w1 ⟨rfl, b1⟩)
  go_ret
  exact ⟨rfl, b1⟩
theorem write_nil (o : Int) (s : ByteArray) (w : World) : Calls Try.prog 21 #[.pointer none, .int .i64 o, .string s] w fun e w' => e = .returned (.int .i64 1) ∧ w' = w := by
  have hc := ready_nil
  go_enter Try.func21, Try.ntmps21
  go_wp2_with (go_at_call 28; (with_reducible refine (hc _).mono ?_); rintro e w1 ⟨rfl, rfl⟩)
  go_ret
  exact ⟨rfl, rfl⟩
/-- Memory behind the append of a write: all but the visible content. -/
structure Wr1 (W X : World) (B : Nat) (h : Dh) (d : Dk) (pv : Value) (p : Nat × ByteArray) : Prop where
  r : Row X h.g 66 (boxC { h with pv := pv } d.dur.length d.lost d.left)
  a : Row X h.a 5 (byteCells d.dur).toArray
  b : Row X h.b 5 (byteCells d.vis).toArray
  p : X.ownsRow B 71 2 pv (d.pend.length + 1) (flW d.pend ++ [.int .i64 p.1, .string p.2])
  k : Kept h.has W X
  pv : ∀ k, pv.ownBlock = some k → h.pv.ownBlock = some k ∨ W.heap.size ≤ k
theorem wroteD_at {d : Dk} : wroteD d = if d.left = 0 then d else { d with lost := ((d.left - 1 : Nat) : Int) == 0, left := d.left - 1 } := by
  unfold wroteD
  by_cases h : d.left = 0
  · rw [if_pos h, if_neg (by omega)]
  · rw [if_neg h, if_pos (by omega)]
    have e : (d.left == 1) = (((d.left - 1 : Nat) : Int) == 0) := by
      rw [Bool.eq_iff_iff]
      simp only [beq_iff_eq]
      omega
    rw [e]
theorem wrote_any {X : World} {B : Nat} {h : Dh} {d : Dk} (m : DiskM X B h d) : Calls Try.prog 37 #[.pointer (some ⟨h.g, 0, none⟩)] X fun e w' => e = .returned (.tuple #[]) ∧ DiskM w' B h (wroteD d) ∧ Kept (· = h.g) X w' := by
  have c0 := m.c0
  have c1 := m.c1
  rw [wroteD_at]
  cases hl : d.left with
  | zero =>
    rw [hl] at c1
    exact (wrote_zero h.g X c1).mono fun e w' ⟨he, hw⟩ => by subst hw; exact ⟨he, m, .refl _ _⟩
  | succ n =>
    rw [hl] at c1
    have h9 := m.ok.left
    rw [hl] at h9
    refine (wrote_more h.g n h9 _ X c0 c1 (m.r.free 0) (m.r.free 1)).mono fun e w' ⟨he, hw⟩ => ?_
    subst hw
    exact ⟨he, m.pwr _ n (by omega), kept_pwr _ _ _ _⟩
theorem Wr1.take {W X X2 : World} {B : Nat} {h : Dh} {d : Dk} {pv : Value} {p : Nat × ByteArray} (m : DiskM W B h d) (x : Wr1 W X B h d pv p) (hp : p.1 + p.2.size ≤ d.dur.length) (hk : Kept (· = h.b) X X2) (hb : Row X2 h.b 5 (byteCells (putB d.vis p)).toArray) :
    DiskM X2 B { h with pv := pv } { d with vis := putB d.vis p, pend := d.pend ++ [p] } ∧ Kept h.has W X2 := by
  refine ⟨⟨x.r.kept hk m.gb, x.a.kept hk m.ab, hb, ?_, m.ab, m.Bg, m.Ba, m.Bb, ⟨?_, ?_, m.ok.small, m.ok.left⟩⟩, x.k.trans hk (fun i hi => .inl (by rw [hi]; exact .inr (.inr (.inl rfl))))⟩
  · have h1 := own_kept x.p hk (fun j hj e => by
      have := own_ne x.b x.p (by decide)
      exact this (by rw [hj, e]))
    rw [← flW_snoc] at h1
    show X2.ownsRow B _ 2 pv (d.pend ++ [p]).length _
    rw [List.length_append]; exact h1
  · show putB d.vis p = putAll d.dur (d.pend ++ [p])
    rw [putAll_snoc, ← m.ok.vis]
  · intro q hq
    rcases List.mem_append.1 hq with hq | hq
    · exact m.ok.fit q hq
    · rw [List.mem_singleton] at hq; subst hq; exact hp
theorem wr1_of {W W1 X0 w9 : World} {B bx g' cap H : Nat} {h : Dh} {d : Dk} {p : Nat × ByteArray} {C : Array Value} (m : DiskM W B h d) (hb : Below W.heap.size W W1) (hbx : W.heap.size ≤ bx) (hr : Row W1 bx 71 C) (hb0 : Below W1.heap.size W1 X0) (hgrow : X0.grownBy w9 h.pv.ownBlock)
    (hown : w9.ownsRow B 71 2 (.slice (some ⟨g', 0, none⟩) (d.pend.length + 1) cap) (d.pend.length + 1) (flW d.pend ++ [.int .i64 p.1, .string p.2])) (hat : h.pv.ownBlock = some g' ∨ g' = H) (hH : W.heap.size ≤ H) :
    Row w9 bx 71 C ∧ Row w9 h.g 66 (boxC h d.dur.length d.lost d.left) ∧ Wr1 W (w9.setCell ⟨h.g, 4, none⟩ (.slice (some ⟨g', 0, none⟩) (d.pend.length + 1) cap)) B h d (.slice (some ⟨g', 0, none⟩) (d.pend.length + 1) cap) p ∧ Row (w9.setCell ⟨h.g, 4, none⟩ (.slice (some ⟨g', 0, none⟩) (d.pend.length + 1) cap)) bx 71 C := by
  have b1 := below_step hb hb0
  have m1 := m.step b1
  have k1 : Kept (fun k => h.pv.ownBlock = some k) W w9 := (Kept.of_below b1).grown hgrow (fun k hk => .inl hk)
  have r9 := m.r.kept k1 m.pg
  have a9 := m.a.kept k1 m.pa
  have b9 := m.b.kept k1 m.pb
  have x9 : Row w9 bx 71 C := (hr.step hb0).grown hgrow (fun e => by
    have := (m.p.lt bx e.symm).2
    omega)
  have kc : Kept (· = h.g) w9 (w9.setCell ⟨h.g, 4, none⟩ (.slice (some ⟨g', 0, none⟩) (d.pend.length + 1) cap)) := (Kept.refl (fun k => k = h.g) w9).setCell (p := ⟨h.g, 4, none⟩) (.inl rfl) _
  refine ⟨x9, r9, ⟨r9.stored 4 _, a9.kept kc (fun e => m.ga e.symm), b9.kept kc (fun e => m.gb e.symm), own_kept hown kc (fun j hj e => own_ne r9 hown (by decide) (by rw [hj, e])), ?_, fun k hk => ?_⟩, x9.kept kc (fun e => by have := m.r.inside; omega)⟩
  · exact (k1.more (fun i hi => .inl (.inr (.inr (.inr hi))))).trans kc (fun i hi => .inl (.inl hi))
  · obtain rfl : g' = k := by simpa [Value.ownBlock] using hk
    rcases hat with h1 | h1
    · exact .inl h1
    · exact .inr (by omega)
set_option maxRecDepth 100000 in
set_option maxHeartbeats 8000000 in
theorem write_any {W : World} {B : Nat} {h : Dh} {d : Dk} (m : DiskM W B h d) (hB : B ≤ W.heap.size) (hp : d.pend.length ≤ 1000) (o : Int) (o1 : -9223372036854775808 ≤ o) (o2 : o ≤ 9223372036854775807) (s : ByteArray) (hs : s.size ≤ 9223372036854775807) :
    Calls Try.prog 21 #[.pointer (some ⟨h.g, 0, none⟩), .int .i64 o, .string s] W fun e w' => e = .returned (.int .i64 (writeE d o s)) ∧ Turned W w' B h (writeD d o s) := by
  have c0 := m.c0
  have c3 := m.c3
  cases hl : d.lost with
  | true =>
    rw [hl] at c0
    have hE : writeE d o s = 91 := by unfold writeE; rw [hl]; rfl
    have hD : writeD d o s = d := by unfold writeD; rw [hE]; rfl
    rw [hE, hD]
    have hc := ready_yes h.g W c0
    have HC := Lib.hid hc; have T := Lib.hid (Turned.still m)
    clear hE hD hc m
    go_enter Try.func21, Try.ntmps21
    go_wp2_with (go_at_call 28; (with_reducible refine (HC.out).mono ?_); rintro e w1 ⟨rfl, rfl⟩)
    go_ret
    exact ⟨rfl, T.out⟩
  | false =>
    rw [hl] at c0
    have hc := ready_no h.g W c0
    obtain ⟨N, hN⟩ : ∃ N, N = d.dur.length := ⟨_, rfl⟩
    have hsm := m.ok.small
    rw [← hN] at c3 hsm
    have hh := has_any (some ⟨h.b, 0, none⟩) N N o s.size (by omega) o1 o2 W
    have HC := Lib.hid hc; have HH := Lib.hid hh; have HN := Lib.hid hN
    cases hb : hasB N o s.size with
    | false =>
      rw [hb] at HH
      have hE : writeE d o s = 90 := by unfold writeE; rw [hl, ← hN, hb]; rfl
      have hD : writeD d o s = d := by unfold writeD; rw [hE]; rfl
      rw [hE, hD]
      have T := Lib.hid (Turned.still m)
      clear hc hh hN m hE hD
      go_enter Try.func21, Try.ntmps21
      go_wp2_with first | (go_at_call 28; (with_reducible refine (HC.out).mono ?_); rintro e w1 ⟨rfl, rfl⟩) | (go_at_call 29; (with_reducible refine (HH.out).mono ?_); rintro e w1 ⟨rfl, rfl⟩)
      go_ret
      exact ⟨rfl, T.out⟩
    | true =>
      rw [hb] at HH
      obtain ⟨h1, h2, h3⟩ := hasB_iff.1 hb
      obtain ⟨oi, rfl⟩ : ∃ x : Nat, o = x := ⟨o.toNat, by omega⟩
      have hfit : oi + s.size ≤ N := by omega
      have hE : writeE d oi s = 0 := by unfold writeE; rw [hl, ← hN, hb]; rfl
      have hD : writeD d oi s = wroteD { d with vis := putB d.vis (oi, s), pend := d.pend ++ [(oi, s)] } := by unfold writeD; rw [hE]; rfl
      rw [hE, hD]
      clear hE hD
      have hcl := strClone_any s (by omega)
      obtain ⟨j0, kj, kz0, kz1, kz2⟩ := info_parts wr_info
      have HCL := Lib.hid hcl; have MM := Lib.hid m; have INF := Lib.hid (And.intro kj (And.intro kz0 (And.intro kz1 kz2)))
      clear hc hh hN m hb h1 h2 h3 hcl o1 o2 kj kz0 kz1 kz2
      go_enter Try.func21, Try.ntmps21
      go_upto_region 7 with first | (go_at_call 28; (with_reducible refine (HC.out).mono ?_); rintro e w1 ⟨rfl, rfl⟩) | (go_at_call 29; (with_reducible refine (HH.out).mono ?_); rintro e w1 ⟨rfl, rfl⟩) | (go_at_call 35; (with_reducible refine (HCL.out _).mono ?_); rintro e wc ⟨rfl, bc⟩; have BC := Lib.hid bc; clear bc)
      obtain ⟨W1, hW1⟩ : ∃ W1, W1 = wc.alloc (.cells #[.int .i64 oi, .string s] 71) := ⟨_, rfl⟩
      rw [← hW1]
      have r1 : Row W1 wc.heap.size 71 #[.int .i64 oi, .string s] := by rw [hW1]; exact Row.made _ _ _
      have b1 : Below w1.heap.size w1 W1 := by rw [hW1]; exact keep_alloc BC.out _
      have m1 := MM.out.step b1
      have gIn : h.g < W1.heap.size := m1.r.inside
      have c4 := m1.c4
      have f4 := m1.r.free 4
      obtain ⟨x0, x1, _, _⟩ := r1.two
      have own1 : (W1.drew.alloc (.cells #[.int .i64 oi, .string s] 71)).ownsRow B 71 2 h.pv d.pend.length (flW d.pend) := (show W1.drew.ownsRow B 71 2 h.pv d.pend.length (flW d.pend) from m1.p).alloc _
      have hB1 : B ≤ W1.heap.size := Nat.le_trans hB b1.size
      have bxB : w1.heap.size ≤ wc.heap.size := BC.out.size
      have b2 : Below W1.heap.size W1 (W1.drew.alloc (.cells #[.int .i64 oi, .string s] 71)) := keep_alloc (Below.refl _ W1).drew _
      have hnew := new_at W1.drew 71 [.int .i64 oi, .string s]
      have c3v := m1.c3
      have tk := fun (X : World) (x : Row X h.b 5 (byteCells d.vis).toArray) => take_any h.b N d.vis (by rw [MM.out.ok.len, HN.out]) hsm oi s hfit X x
      have OWN := Lib.hid own1; have B1 := Lib.hid b1; have B2 := Lib.hid b2; have R1 := Lib.hid r1; have HNEW := Lib.hid hnew; have TK := Lib.hid tk
      clear hW1 r1 b1 b2 m1 own1 hnew tk
      refine wp_region_held_drew (S := (fun X : World => X.cell? ⟨wc.heap.size, 0, none⟩ = some (.int .i64 oi) ∧ X.cell? ⟨wc.heap.size, 1, none⟩ = some (.string s))) (by kernel_rfl) ?_ (fun hHeld => ?_)
      · first | exact ⟨x0, x1⟩ | exact ⟨Lib.cell?_alloc_some _ x0, Lib.cell?_alloc_some _ x1⟩ | exact ⟨y0, y1⟩
      refine wpAnyH_take (i := 0) (oi := ⟨_, _, _, _, _, _⟩) (v := ?_) rfl (by kernel_rfl) (by kernel_rfl) (by kernel_rfl) (fun _ _ _ h => h) (Or.inl ⟨by rfl, ?_⟩) (by assumption) ?_
      rotate_left 1
      focus (intro w hSw; (try dsimp only at hSw); go_simp; (try with_reducible rfl))
      (try simp only [Act.put, List.setIfInBounds_toArray, List.set_cons_zero, List.set_cons_succ])
      refine wpAnyH_take (i := 1) (oi := ⟨_, _, _, _, _, _⟩) (v := ?_) rfl (by kernel_rfl) (by kernel_rfl) (by kernel_rfl) (fun _ _ _ h => h) (Or.inl ⟨by rfl, ?_⟩) (by assumption) ?_
      rotate_left 1
      focus (intro w hSw; (try dsimp only at hSw); go_simp; (try with_reducible rfl))
      (try simp only [Act.put, List.setIfInBounds_toArray, List.set_cons_zero, List.set_cons_succ])
      refine wpAnyH_take (i := 2) (oi := ⟨_, _, _, _, _, _⟩) (v := ?_) rfl (by kernel_rfl) (by kernel_rfl) (by kernel_rfl) (fun _ _ _ h => h) (Or.inl ⟨by rfl, ?_⟩) (by assumption) ?_
      rotate_left 1
      focus (intro w hSw; (try dsimp only at hSw); go_simp; (try with_reducible rfl))
      (try simp only [Act.put, List.setIfInBounds_toArray, List.set_cons_zero, List.set_cons_succ])
      refine wpAnyH_take (i := 3) (oi := ⟨_, _, _, _, _, _⟩) (v := ?_) rfl (by kernel_rfl) (by kernel_rfl) (by kernel_rfl) (fun _ _ _ h => h) (Or.inl ⟨by rfl, ?_⟩) (by assumption) ?_
      rotate_left 1
      focus (intro w hSw; (try dsimp only at hSw); go_simp; (try with_reducible rfl))
      (try simp only [Act.put, List.setIfInBounds_toArray, List.set_cons_zero, List.set_cons_succ])
      refine wpAnyH_take (i := 5) (oi := ⟨_, _, _, _, _, _⟩) (v := ?_) rfl (by kernel_rfl) (by kernel_rfl) (by kernel_rfl) (fun _ _ _ h => h) (Or.inl ⟨by rfl, ?_⟩) (by assumption) ?_
      rotate_left 1
      focus (intro w hSw; (try dsimp only at hSw); go_simp; (try with_reducible rfl))
      (try simp only [Act.put, List.setIfInBounds_toArray, List.set_cons_zero, List.set_cons_succ])
      refine wpAnyH_ready (rs := [4, 6]) (by kernel_rfl) (by simp) ?_
      refine AllReadyH.cons (o := ⟨_, _, _, _, _, _⟩) rfl (fun K hK => ?_) ?_
      · go_simp
        refine hK.out _ _ ?_ (fun hHeld => ?_)
        · first | exact ⟨x0, x1⟩ | exact ⟨Lib.cell?_alloc_some _ x0, Lib.cell?_alloc_some _ x1⟩ | exact ⟨y0, y1⟩
        clear hK K
        (try simp only [Act.put, List.setIfInBounds_toArray, List.set_cons_zero, List.set_cons_succ])
        refine wpAnyH_ready (rs := [6]) (by kernel_rfl) (by simp) ?_
        refine AllReadyH.cons (o := ⟨_, _, _, _, _, _⟩) rfl (fun K hK => ?_) ?_
        · go_simp
          refine hK.out _ _ ?_ (fun hHeld => ?_)
          · first | exact ⟨x0, x1⟩ | exact ⟨Lib.cell?_alloc_some _ x0, Lib.cell?_alloc_some _ x1⟩ | exact ⟨y0, y1⟩
          clear hK K
          (try simp only [Act.put, List.setIfInBounds_toArray, List.set_cons_zero, List.set_cons_succ])
          refine wpAnyH_ready (rs := [7]) (by kernel_rfl) (by simp) ?_
          refine AllReadyH.cons (o := ⟨_, _, _, _, _, _⟩) rfl (fun K hK => ?_) ?_
          · refine step_append_lies _ rfl _ _ 64 rfl B 71 j0 (.agg #[.int .i64 0, .string ⟨#[]⟩]) 2 24 Try.underlying64 INF.out.1 INF.out.2.1 INF.out.2.2.1 INF.out.2.2.2 rfl (by decide) _ _ _ (by rfl) OWN.out ⟨W1.heap.size, 0, none⟩ 1 1 [.int .i64 oi, .string s] (by rfl) rfl HNEW.out (by intro u hu; simp only [List.mem_cons, List.not_mem_nil, or_false] at hu; rcases hu with rfl | rfl <;> rfl) (by decide) (by unfold maxLen; omega) (by omega) (by simp; omega) (W1.heap.size + 1) (by simp) ?_
            intro g' cap2 w9 hown' hgrow hat hlt9
            obtain ⟨n0, n1, n2, n3⟩ := wr1_of (p := (oi, s)) MM.out B1.out bxB R1.out B2.out hgrow hown' hat (by have := B1.out.size; omega)
            have n4 : w9.cell? ⟨h.g, 4, none⟩ = some h.pv := n1.at (i := 4) rfl
            have g4 := n1.free 4
            clear x0 x1 c4 f4
            obtain ⟨y0, y1, _, _⟩ := n0.two
            obtain ⟨x0, x1, _, _⟩ := n3.two
            have N1 := Lib.hid n1; have N2 := Lib.hid n2; have N3 := Lib.hid n3
            clear hown' hgrow n0 n1 n2 n3 hat hlt9
            refine hK.out _ _ ?_ (fun hHeld => ?_)
            · first | exact ⟨x0, x1⟩ | exact ⟨Lib.cell?_alloc_some _ x0, Lib.cell?_alloc_some _ x1⟩ | exact ⟨y0, y1⟩
            clear hK K
            (try simp only [Act.put, List.setIfInBounds_toArray, List.set_cons_zero, List.set_cons_succ])
            refine wpAnyH_take (i := 8) (oi := ⟨_, _, _, _, _, _⟩) (v := ?_) rfl (by kernel_rfl) (by kernel_rfl) (by kernel_rfl) (fun _ _ _ h => h) (Or.inl ⟨by rfl, ?_⟩) (by assumption) ?_
            rotate_left 1
            focus (intro w hSw; (try dsimp only at hSw); go_simp; (try with_reducible rfl))
            (try simp only [Act.put, List.setIfInBounds_toArray, List.set_cons_zero, List.set_cons_succ])
            refine wpAnyH_take (i := 9) (oi := ⟨_, _, _, _, _, _⟩) (v := ?_) rfl (by kernel_rfl) (by kernel_rfl) (by kernel_rfl) (fun _ _ _ h => h) (Or.inl ⟨by rfl, ?_⟩) (by assumption) ?_
            rotate_left 1
            focus (intro w hSw; (try dsimp only at hSw); go_simp; (try with_reducible rfl))
            (try simp only [Act.put, List.setIfInBounds_toArray, List.set_cons_zero, List.set_cons_succ])
            refine wpAnyH_ready (rs := [10]) (by kernel_rfl) (by simp) ?_
            refine AllReadyH.cons (o := ⟨_, _, _, _, _, _⟩) rfl (fun K hK => ?_) ?_
            · go_simp
              refine hK.out _ _ ?_ (fun hHeld => ?_)
              · first | exact ⟨x0, x1⟩ | exact ⟨Lib.cell?_alloc_some _ x0, Lib.cell?_alloc_some _ x1⟩ | exact ⟨y0, y1⟩
              clear hK K
              (try simp only [Act.put, List.setIfInBounds_toArray, List.set_cons_zero, List.set_cons_succ])
              refine wpAnyH_done (by kernel_rfl) ?_ _
              go_upto_region 8 with (fail)
              obtain ⟨X, hX⟩ : ∃ X, X = w9.setCell ⟨h.g, 4, none⟩ (.slice (some ⟨g', 0, none⟩) (d.pend.length + 1) cap2) := ⟨_, rfl⟩
              rw [← hX] at N2 N3 x0 x1 ⊢
              have c3 : X.cell? ⟨h.g, 3, none⟩ = some (.slice (some ⟨h.b, 0, none⟩) N N) := by rw [HN.out]; exact N2.out.r.at rfl
              clear hX hHeld y0 y1 n4 g4 N1
              go_still_tail 5, (by kernel_rfl)
              go_wp2_with first | (go_at_call 36; go_loud (refine (TK.out _ N2.out.b.drawn).mono ?_); rintro e w10 ⟨rfl, kt, rt⟩; obtain ⟨m10, k10⟩ := Wr1.take MM.out N2.out (by rw [← HN.out]; exact hfit) ⟨kt.os, kt.tape, kt.output, kt.size, kt.block⟩ rt; have M10 := Lib.hid m10; have K10 := Lib.hid k10; clear kt rt m10 k10) | (go_at_call 37; go_loud (refine (wrote_any M10.out).mono ?_); rintro e w11 ⟨rfl, m11, k11⟩; have M11 := Lib.hid m11; have K11 := Lib.hid k11; clear m11 k11)
              go_ret
              exact ⟨rfl, _, M11.out, K10.out.trans K11.out (fun i hi => .inl (.inl hi)), N2.out.pv⟩
            exact AllReadyH.nil
          exact AllReadyH.nil
        exact AllReadyH.nil
      refine AllReadyH.cons (o := ⟨_, _, _, _, _, _⟩) rfl (fun K hK => ?_) ?_
      · go_simp
        refine hK.out _ _ ?_ (fun hHeld => ?_)
        · first | exact ⟨x0, x1⟩ | exact ⟨Lib.cell?_alloc_some _ x0, Lib.cell?_alloc_some _ x1⟩ | exact ⟨y0, y1⟩
        clear hK K
        (try simp only [Act.put, List.setIfInBounds_toArray, List.set_cons_zero, List.set_cons_succ])
        refine wpAnyH_ready (rs := [4]) (by kernel_rfl) (by simp) ?_
        refine AllReadyH.cons (o := ⟨_, _, _, _, _, _⟩) rfl (fun K hK => ?_) ?_
        · go_simp
          refine hK.out _ _ ?_ (fun hHeld => ?_)
          · first | exact ⟨x0, x1⟩ | exact ⟨Lib.cell?_alloc_some _ x0, Lib.cell?_alloc_some _ x1⟩ | exact ⟨y0, y1⟩
          clear hK K
          (try simp only [Act.put, List.setIfInBounds_toArray, List.set_cons_zero, List.set_cons_succ])
          refine wpAnyH_ready (rs := [7]) (by kernel_rfl) (by simp) ?_
          refine AllReadyH.cons (o := ⟨_, _, _, _, _, _⟩) rfl (fun K hK => ?_) ?_
          · refine step_append_lies _ rfl _ _ 64 rfl B 71 j0 (.agg #[.int .i64 0, .string ⟨#[]⟩]) 2 24 Try.underlying64 INF.out.1 INF.out.2.1 INF.out.2.2.1 INF.out.2.2.2 rfl (by decide) _ _ _ (by rfl) OWN.out ⟨W1.heap.size, 0, none⟩ 1 1 [.int .i64 oi, .string s] (by rfl) rfl HNEW.out (by intro u hu; simp only [List.mem_cons, List.not_mem_nil, or_false] at hu; rcases hu with rfl | rfl <;> rfl) (by decide) (by unfold maxLen; omega) (by omega) (by simp; omega) (W1.heap.size + 1) (by simp) ?_
            intro g' cap2 w9 hown' hgrow hat hlt9
            obtain ⟨n0, n1, n2, n3⟩ := wr1_of (p := (oi, s)) MM.out B1.out bxB R1.out B2.out hgrow hown' hat (by have := B1.out.size; omega)
            have n4 : w9.cell? ⟨h.g, 4, none⟩ = some h.pv := n1.at (i := 4) rfl
            have g4 := n1.free 4
            clear x0 x1 c4 f4
            obtain ⟨y0, y1, _, _⟩ := n0.two
            obtain ⟨x0, x1, _, _⟩ := n3.two
            have N1 := Lib.hid n1; have N2 := Lib.hid n2; have N3 := Lib.hid n3
            clear hown' hgrow n0 n1 n2 n3 hat hlt9
            refine hK.out _ _ ?_ (fun hHeld => ?_)
            · first | exact ⟨x0, x1⟩ | exact ⟨Lib.cell?_alloc_some _ x0, Lib.cell?_alloc_some _ x1⟩ | exact ⟨y0, y1⟩
            clear hK K
            (try simp only [Act.put, List.setIfInBounds_toArray, List.set_cons_zero, List.set_cons_succ])
            refine wpAnyH_take (i := 8) (oi := ⟨_, _, _, _, _, _⟩) (v := ?_) rfl (by kernel_rfl) (by kernel_rfl) (by kernel_rfl) (fun _ _ _ h => h) (Or.inl ⟨by rfl, ?_⟩) (by assumption) ?_
            rotate_left 1
            focus (intro w hSw; (try dsimp only at hSw); go_simp; (try with_reducible rfl))
            (try simp only [Act.put, List.setIfInBounds_toArray, List.set_cons_zero, List.set_cons_succ])
            refine wpAnyH_take (i := 9) (oi := ⟨_, _, _, _, _, _⟩) (v := ?_) rfl (by kernel_rfl) (by kernel_rfl) (by kernel_rfl) (fun _ _ _ h => h) (Or.inl ⟨by rfl, ?_⟩) (by assumption) ?_
            rotate_left 1
            focus (intro w hSw; (try dsimp only at hSw); go_simp; (try with_reducible rfl))
            (try simp only [Act.put, List.setIfInBounds_toArray, List.set_cons_zero, List.set_cons_succ])
            refine wpAnyH_ready (rs := [10]) (by kernel_rfl) (by simp) ?_
            refine AllReadyH.cons (o := ⟨_, _, _, _, _, _⟩) rfl (fun K hK => ?_) ?_
            · go_simp
              refine hK.out _ _ ?_ (fun hHeld => ?_)
              · first | exact ⟨x0, x1⟩ | exact ⟨Lib.cell?_alloc_some _ x0, Lib.cell?_alloc_some _ x1⟩ | exact ⟨y0, y1⟩
              clear hK K
              (try simp only [Act.put, List.setIfInBounds_toArray, List.set_cons_zero, List.set_cons_succ])
              refine wpAnyH_done (by kernel_rfl) ?_ _
              go_upto_region 8 with (fail)
              obtain ⟨X, hX⟩ : ∃ X, X = w9.setCell ⟨h.g, 4, none⟩ (.slice (some ⟨g', 0, none⟩) (d.pend.length + 1) cap2) := ⟨_, rfl⟩
              rw [← hX] at N2 N3 x0 x1 ⊢
              have c3 : X.cell? ⟨h.g, 3, none⟩ = some (.slice (some ⟨h.b, 0, none⟩) N N) := by rw [HN.out]; exact N2.out.r.at rfl
              clear hX hHeld y0 y1 n4 g4 N1
              go_still_tail 5, (by kernel_rfl)
              go_wp2_with first | (go_at_call 36; go_loud (refine (TK.out _ N2.out.b.drawn).mono ?_); rintro e w10 ⟨rfl, kt, rt⟩; obtain ⟨m10, k10⟩ := Wr1.take MM.out N2.out (by rw [← HN.out]; exact hfit) ⟨kt.os, kt.tape, kt.output, kt.size, kt.block⟩ rt; have M10 := Lib.hid m10; have K10 := Lib.hid k10; clear kt rt m10 k10) | (go_at_call 37; go_loud (refine (wrote_any M10.out).mono ?_); rintro e w11 ⟨rfl, m11, k11⟩; have M11 := Lib.hid m11; have K11 := Lib.hid k11; clear m11 k11)
              go_ret
              exact ⟨rfl, _, M11.out, K10.out.trans K11.out (fun i hi => .inl (.inl hi)), N2.out.pv⟩
            exact AllReadyH.nil
          exact AllReadyH.nil
        exact AllReadyH.nil
      exact AllReadyH.nil
end Go.Proofs.Ytghcffpcblficaa
