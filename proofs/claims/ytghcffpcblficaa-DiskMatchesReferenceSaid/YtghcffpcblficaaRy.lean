/- The reference: Write. -/
import Derived.Test.YtghcffpcblficaaRx
namespace Go.Proofs.Ytghcffpcblficaa
open Go.RowKit Go.Lib

theorem chg_info : (Try.prog.info? 77).map (fun i => (i.zero, i.size, i.bytes)) = some (some (.agg #[.int .i64 0, .string ⟨#[]⟩]), 2, 24) := by kernel_rfl
theorem rw1_of {W X0 w9 : World} {B g' cap H : Nat} {h : Rh} {d : Dk} {p : Nat × ByteArray} (m : RefM W B h d) (b : Below W.heap.size W X0) (hgrow : X0.grownBy w9 h.lv.ownBlock) (hp : p.1 + p.2.size ≤ d.dur.length)
    (hown : w9.ownsRow B 77 2 (.slice (some ⟨g', 0, none⟩) (d.pend.length + 1) cap) (d.pend.length + 1) (flW d.pend ++ [.int .i64 p.1, .string p.2])) (hat : h.lv.ownBlock = some g' ∨ g' = H) (hH : W.heap.size ≤ H) :
    (w9.cell? ⟨h.g, 1, none⟩ = some h.lv ∧ w9.frozen? ⟨h.g, 1, none⟩ = false) ∧ RefM (w9.setCell ⟨h.g, 1, none⟩ (.slice (some ⟨g', 0, none⟩) (d.pend.length + 1) cap)) B ⟨h.g, h.sv, .slice (some ⟨g', 0, none⟩) (d.pend.length + 1) cap⟩ { d with vis := putB d.vis p, pend := d.pend ++ [p] } ∧ Kept h.has W (w9.setCell ⟨h.g, 1, none⟩ (.slice (some ⟨g', 0, none⟩) (d.pend.length + 1) cap)) ∧ ∀ k, (⟨h.g, h.sv, .slice (some ⟨g', 0, none⟩) (d.pend.length + 1) cap⟩ : Rh).has k → h.has k ∨ W.heap.size ≤ k := by
  have m1 := m.step b
  have k9 : Kept (fun k => h.lv.ownBlock = some k) X0 w9 := (Kept.refl _ X0).grown hgrow (fun k hk => .inl hk)
  have r9 := m1.r.kept k9 m1.lg
  have s9 := own_kept m1.s k9 (fun j hj e => m1.sl j hj e)
  have kc := (Kept.refl (fun k => k = h.g) w9).setCell (p := ⟨h.g, 1, none⟩) (.inl rfl) (.slice (some ⟨g', 0, none⟩) (d.pend.length + 1) cap)
  refine ⟨⟨r9.at rfl, r9.free 1⟩, ⟨r9.stored 1 _, own_kept s9 kc (fun j hj e => own_ne r9 s9 (by decide) (by rw [hj, e])), ?_, m.Bg, ⟨?_, fun q hq => ?_, m.ok.small, m.ok.left⟩, m.n1, m.n2⟩, ?_, fun k hk => ?_⟩
  · have := own_kept hown kc (fun j hj e => own_ne r9 hown (by decide) (by rw [hj, e]))
    rw [← flW_snoc] at this
    show World.ownsRow _ B _ 2 _ (d.pend ++ [p]).length _
    rw [List.length_append]; exact this
  · show putB d.vis p = putAll d.dur (d.pend ++ [p])
    rw [putAll_snoc, ← m.ok.vis]
  · rcases List.mem_append.1 hq with hq | hq
    · exact m.ok.fit q hq
    · rw [List.mem_singleton] at hq; subst hq; exact hp
  · exact ((Kept.of_below b).trans (k9.more (T := h.has) (fun i hi => .inl (.inr (.inr hi)))) (fun i hi => .inl hi)).trans kc (fun i hi => .inl (.inl hi))
  · rcases hk with hk | hk | hk
    · exact .inl (.inl hk)
    · exact .inl (.inr (.inl hk))
    · obtain rfl : g' = k := by simpa [Value.ownBlock] using hk
      rcases hat with h1 | h1
      · exact .inl (.inr (.inr h1))
      · exact .inr (by omega)
set_option maxRecDepth 100000 in
set_option maxHeartbeats 8000000 in
theorem rwrite_any {W : World} {B : Nat} {h : Rh} {d : Dk} (m : RefM W B h d) (hB : B ≤ W.heap.size) (hp : d.pend.length ≤ 1000) (o : Int) (o1 : -9223372036854775808 ≤ o) (o2 : o ≤ 9223372036854775807) (s : ByteArray) (hs : s.size ≤ 9223372036854775807) :
    Calls Try.prog 30 #[.pointer (some ⟨h.g, 0, none⟩), .int .i64 o, .string s] W fun e w' => e = .returned (.int .i64 (writeE d o s)) ∧ TurnedR W w' B h (writeD d o s) := by
  have c0 := m.c0
  have c2 := m.c2
  obtain ⟨gs, sc, hsv, _⟩ := m.svf
  rw [hsv] at c0
  cases hl : d.lost with
  | true =>
    rw [hl] at c2
    have hE : writeE d o s = 91 := by unfold writeE; rw [hl]; rfl
    have hD : writeD d o s = d := by unfold writeD; rw [hE]; rfl
    rw [hE, hD]
    have T := Lib.hid (TurnedR.still m)
    clear hE hD m hsv
    go_enter Try.func30, Try.ntmps30
    go_wp2
    go_ret
    exact ⟨rfl, T.out⟩
  | false =>
    rw [hl] at c2
    have n2 := m.n2
    obtain ⟨N, hN⟩ : ∃ N, N = d.dur.length := ⟨_, rfl⟩
    rw [← hN] at c0 n2
    have hER : hasB N o s.size = false → writeE d o s = 90 ∧ writeD d o s = d := fun hb => by
      have hE : writeE d o s = 90 := by unfold writeE; rw [hl, ← hN, hb]; rfl
      exact ⟨hE, by unfold writeD; rw [hE]; rfl⟩
    have hOK : hasB N o s.size = true → writeE d o s = 0 ∧ writeD d o s = wroteD { d with vis := putB d.vis (o.toNat, s), pend := d.pend ++ [(o.toNat, s)] } := fun hb => by
      have hE : writeE d o s = 0 := by unfold writeE; rw [hl, ← hN, hb]; rfl
      exact ⟨hE, by unfold writeD; rw [hE]; rfl⟩
    have T := Lib.hid (TurnedR.still m); have MM := Lib.hid m; have HN := Lib.hid hN
    have c1 := m.c1
    clear m hsv hN
    by_cases a1 : o < 0
    · obtain ⟨hE, hD⟩ := hER (by unfold hasB; rw [decide_eq_false (by omega : ¬ 0 ≤ o)]; rfl)
      rw [hE, hD]
      clear hE hD hER hOK c1
      go_enter Try.func30, Try.ntmps30
      go_wp2
      go_ret
      exact ⟨rfl, T.out⟩
    · have a1d : decide (o < 0) = false := decide_eq_false a1
      by_cases a3 : (N : Int) < o
      · obtain ⟨hE, hD⟩ := hER (by unfold hasB; rw [decide_eq_false (by omega : ¬ (s.size : Int) ≤ N - o), Bool.and_false])
        rw [hE, hD]
        clear hE hD hER hOK c1
        go_enter Try.func30, Try.ntmps30
        go_wp2
        go_ret
        exact ⟨rfl, T.out⟩
      · have a3d : decide ((N : Int) < o) = false := decide_eq_false a3
        by_cases a4 : (N : Int) - o < s.size
        · obtain ⟨hE, hD⟩ := hER (by unfold hasB; rw [decide_eq_false (by omega : ¬ (s.size : Int) ≤ N - o), Bool.and_false])
          rw [hE, hD]
          clear hE hD hER hOK c1
          go_enter Try.func30, Try.ntmps30
          go_wp2
          go_ret
          exact ⟨rfl, T.out⟩
        · have a4d : decide ((N : Int) - o < s.size) = false := decide_eq_false a4
          obtain ⟨hE, hD⟩ := hOK (by rw [hasB_iff]; omega)
          rw [hE, hD]
          obtain ⟨oi, rfl⟩ : ∃ x : Nat, o = x := ⟨o.toNat, by omega⟩
          rw [Int.toNat_natCast]
          have hfit : oi + s.size ≤ N := by omega
          obtain ⟨j0, kj, kz0, kz1, kz2⟩ := info_parts chg_info
          have own1 := (MM.out.l).alloc (.cells #[.int .i64 oi, .string s] 77)
          have hnew := new_at W 77 [.int .i64 oi, .string s]
          have OWN := Lib.hid own1; have HNEW := Lib.hid hnew; have INF := Lib.hid (And.intro kj (And.intro kz0 (And.intro kz1 kz2)))
          obtain ⟨P, hP⟩ : ∃ P, P = d.pend.length := ⟨_, rfl⟩
          have hgi := MM.out.r.inside
          clear hE hD hER hOK T own1 hnew kj kz0 kz1 kz2
          go_enter Try.func30, Try.ntmps30
          go_upto_region 6 with (at_builtin; go_loud (refine wpList_append_lies _ rfl _ _ 41 rfl B 77 j0 (.agg #[.int .i64 0, .string ⟨#[]⟩]) 2 24 Try.underlying41 INF.out.1 INF.out.2.1 INF.out.2.2.1 INF.out.2.2.2 rfl (by decide) _ _ _ (by rfl) OWN.out ⟨W.heap.size, 0, none⟩ 1 1 [.int .i64 oi, .string s] (by rfl) rfl HNEW.out (by intro u hu; simp only [List.mem_cons, List.not_mem_nil, or_false] at hu; rcases hu with rfl | rfl <;> rfl) (by decide) (by unfold maxLen; omega) (by omega) (by simp; omega) (W.heap.size + 1) (by simp) ?_); intro g' cap2 w9 hown' hgrow hat hlt9; obtain ⟨⟨n1, n2⟩, n3, n4, n5⟩ := rw1_of (p := (oi, s)) MM.out (below_alloc _ _) hgrow (by rw [← HN.out]; exact hfit) hown' hat (by omega); have M3 := Lib.hid n3; have K3 := Lib.hid n4; have H3 := Lib.hid n5; clear hown' hgrow hat hlt9 n3 n4 n5)
          obtain ⟨X, hX⟩ : ∃ X, X = w9.setCell ⟨h.g, 1, none⟩ (.slice (some ⟨g', 0, none⟩) (d.pend.length + 1) cap2) := ⟨_, rfl⟩
          rw [← hX] at M3 K3 ⊢
          clear hX n1 n2 c0 c1 c2 OWN HNEW
          have c2 : X.cell? ⟨h.g, 2, none⟩ = some (.bool d.lost) := M3.out.c2
          have c3 : X.cell? ⟨h.g, 3, none⟩ = some (.int .i64 d.left) := M3.out.c3
          have f2 : X.frozen? ⟨h.g, 2, none⟩ = false := M3.out.frz 2
          have f3 : X.frozen? ⟨h.g, 3, none⟩ = false := M3.out.frz 3
          have hlf := MM.out.ok.left
          cases hlt : d.left with
          | zero =>
            rw [hlt] at c3
            have HLT := Lib.hid hlt
            have TT : Hid (TurnedR W X B h { d with vis := putB d.vis (oi, s), pend := d.pend ++ [(oi, s)] }) := Lib.hid ⟨_, _, M3.out, K3.out, H3.out⟩
            clear hlt
            go_wp2
            go_ret
            exact ⟨rfl, by have := TT.out; rw [hl] at this; rw [wroteD_at, if_pos (show ({ d with vis := putB d.vis (oi, s), pend := d.pend ++ [(oi, s)] } : Dk).left = 0 from HLT.out)]; exact this⟩
          | succ q =>
            rw [hlt] at c3 hlf
            have m4 := M3.out.put 3 (.int .i64 (q : Int)) (sv := h.sv) (lv := .slice (some ⟨g', 0, none⟩) (d.pend.length + 1) cap2) (lost := d.lost) (left := q) (dur := d.dur) (vis := putB d.vis (oi, s)) (pend := d.pend ++ [(oi, s)]) rfl M3.out.s M3.out.l ⟨M3.out.ok.vis, M3.out.ok.fit, M3.out.ok.small, by show q ≤ _; omega⟩ M3.out.n1 M3.out.n2
            have hq1 : ((q + 1 : Nat) : Int) - 1 = (q : Int) := by omega
            by_cases hq0 : q = 0
            · subst hq0
              have m5 := m4.put 2 (.bool true) (sv := h.sv) (lv := .slice (some ⟨g', 0, none⟩) (d.pend.length + 1) cap2) (lost := true) (left := 0) (dur := d.dur) (vis := putB d.vis (oi, s)) (pend := d.pend ++ [(oi, s)]) rfl m4.s m4.l ⟨M3.out.ok.vis, M3.out.ok.fit, M3.out.ok.small, by show 0 ≤ _; omega⟩ M3.out.n1 M3.out.n2
              have TT : Hid (TurnedR W ((X.setCell ⟨h.g, 3, none⟩ (.int .i64 0)).setCell ⟨h.g, 2, none⟩ (.bool true)) B h ⟨d.dur, putB d.vis (oi, s), d.pend ++ [(oi, s)], true, 0⟩) := Lib.hid ⟨_, _, m5, (K3.out.trans (kept_box X h 3 _) (fun i hi => .inl hi)).trans (kept_box _ h 2 _) (fun i hi => .inl hi), H3.out⟩
              have HLT := Lib.hid hlt
              clear hlt m4 m5 hlf hq1
              go_wp2
              go_ret
              exact ⟨rfl, by
                have := TT.out
                rw [wroteD_at, if_neg (show ¬ ({ d with vis := putB d.vis (oi, s), pend := d.pend ++ [(oi, s)] } : Dk).left = 0 from by show ¬ d.left = 0; rw [HLT.out]; omega)]
                show TurnedR W _ B h ⟨d.dur, putB d.vis (oi, s), d.pend ++ [(oi, s)], ((d.left - 1 : Nat) : Int) == 0, d.left - 1⟩
                rw [HLT.out]; exact this⟩
            · have TT : Hid (TurnedR W (X.setCell ⟨h.g, 3, none⟩ (.int .i64 (q : Int))) B h ⟨d.dur, putB d.vis (oi, s), d.pend ++ [(oi, s)], d.lost, q⟩) := Lib.hid ⟨_, _, m4, K3.out.trans (kept_box X h 3 _) (fun i hi => .inl hi), H3.out⟩
              have HLT := Lib.hid hlt
              have hne : ((q : Int) == 0) = false := by simp; omega
              have HNE := Lib.hid hne
              clear hlt m4 hq0
              go_wp2
              go_ret
              exact ⟨rfl, by
                have := TT.out
                rw [wroteD_at, if_neg (show ¬ ({ d with vis := putB d.vis (oi, s), pend := d.pend ++ [(oi, s)] } : Dk).left = 0 from by show ¬ d.left = 0; rw [HLT.out]; omega)]
                show TurnedR W _ B h ⟨d.dur, putB d.vis (oi, s), d.pend ++ [(oi, s)], ((d.left - 1 : Nat) : Int) == 0, d.left - 1⟩
                rw [HLT.out, Nat.add_sub_cancel, HNE.out]; rw [hl] at this; exact this⟩
end Go.Proofs.Ytghcffpcblficaa
