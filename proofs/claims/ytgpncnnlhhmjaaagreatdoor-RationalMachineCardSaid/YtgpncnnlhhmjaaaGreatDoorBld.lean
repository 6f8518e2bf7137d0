/- build: a chain of steps, then lowest terms. Make, Of. -/
import Derived.Test.YtgpncnnlhhmjaaaGreatDoorSt2
namespace Go.Proofs.YtgpncnnlhhmjaaaGreatDoor
open Go.RowKit

set_option maxRecDepth 100000 in
set_option maxHeartbeats 8000000 in
theorem RAny.inside {w : World} {g : Nat} (h : RAny w g) : g < w.heap.size := by
  obtain ⟨_, _, h⟩ := h
  exact Row.inside h
set_option maxRecDepth 100000 in
set_option maxHeartbeats 8000000 in
theorem follow_nil (n d : ByteArray) (w : World) : Calls Tryz.prog 85 #[rv n d, .slice none 0 0] w fun e w' => e = .returned (sv (n, d, 0)) ∧ Below w.heap.size w w' := by
  have h0 := hr_start w n d
  obtain ⟨a3, a4, a5, a6, a7, a8⟩ := h0.eqs
  have H0 := Lib.hid h0
  clear h0
  go_enter Tryz.func85, Tryz.ntmps85
  go_wp2
  go_loopg [6, 11] 0 (fun kx s6 s11 wr => s6 = .int .i64 0 ∧ s11 = .int .i64 0 ∧ wr = ((w.alloc (.cells #[.string n, .string d] 23)).alloc (.cells #[.string ⟨#[]⟩, .string ⟨#[]⟩] 23)))
  case atStart => exact ⟨rfl, rfl, rfl⟩
  case round =>
    obtain ⟨rfl, rfl, rfl⟩ := hrel
    go_wp2
    (try simp only [Exit.inBlock, Exit.then])
    refine bodyPost_ret (res_rt rfl rfl (Row.made_at _ _ _ (by simp))) rfl ?_
    exact ⟨rfl, keep_alloc (below_alloc w _) _⟩
theorem fin_steps {w : World} {g : Nat} (ht : Tab w) (hr : Row w g 79 #[.func (.func 86) #[] #[], .func (.func 87) #[] #[]]) (n d : ByteArray) (c : Nat) :
    Calls Tryz.prog 85 #[rv n d, .slice (some ⟨g, 0, none⟩) 2 c] w fun e w' => e = .returned (sv (runF [posF, lowF] n d 0)) ∧ Below w.heap.size w w' :=
  follow_two n d hr
    ⟨_, _, rfl, enters_of Tryz.func86 (by kernel_rfl) rfl, fun W hW a b => by rw [Array.append_empty]; exact positive_step a b W (ht.below hW)⟩
    ⟨_, _, rfl, enters_of Tryz.func87 (by kernel_rfl) rfl, fun W hW a b => by rw [Array.append_empty]; exact lowest_step a b W (ht.below hW)⟩

/-- What a fraction or an error is, as values. -/
abbrev ov (o : Option Rat) : Value := .tuple #[.agg #[.string (qtN o), .string (qtD o)], .int .i64 (qtE o)]
set_option maxRecDepth 100000 in
set_option maxHeartbeats 8000000 in
theorem build_of (A : Option Addr) (L c : Nat) (n d : ByteArray) (s : St) (w : World) (ht : Tab w)
    (hf : ∀ W, Below w.heap.size w W → Calls Tryz.prog 85 #[rv n d, .slice A L c] W fun e w' => e = .returned (sv s) ∧ Below W.heap.size W w') :
    Calls Tryz.prog 57 #[rv n d, .slice A L c] w fun e w' => e = .returned (ov (if s.2.2 = 0 then makeR s.1 s.2.1 else none)) ∧ Below w.heap.size w w' := by
  have h0 := hr_start w n d
  obtain ⟨a3, a4, a5, a6, a7, a8⟩ := h0.eqs
  have hF := hf _ h0.1
  obtain ⟨a, b, x⟩ := s
  have CF := Lib.hid hF; have H0 := Lib.hid h0; have T0 := Lib.hid ht
  clear hF h0 ht hf
  by_cases hx : x = 0
  · subst hx
    have e1 : (if ((a, b, (0 : Int)) : St).2.2 = 0 then makeR ((a, b, (0 : Int)) : St).1 ((a, b, (0 : Int)) : St).2.1 else none) = makeR a b := rfl
    rw [e1]
    clear e1
    have cG := fun (W : World) (g c : Nat) (h : Tab W) (hr : Row W g 79 #[.func (.func 86) #[] #[], .func (.func 87) #[] #[]]) => fin_steps h hr a b c
    obtain ⟨s2, hs2⟩ : ∃ s2, s2 = runF [posF, lowF] a b 0 := ⟨_, rfl⟩
    rw [← hs2] at cG
    cases hm : makeR a b with
    | none =>
      have h1 := fin_none hm
      rw [← hs2] at h1
      obtain ⟨a2, b2, x2⟩ := s2
      have hx2 : ¬ x2 = 0 := h1
      have CG := Lib.hid cG
      clear cG hs2 h1 hm
      show Calls Tryz.prog 57 #[rv n d, .slice A L c] w fun e w' => e = .returned (.tuple #[.agg #[.string ⟨#[]⟩, .string ⟨#[]⟩], .int .i64 40]) ∧ Below w.heap.size w w'
      go_enter Tryz.func57, Tryz.ntmps57
      go_wp2_with (first
        | (go_at_call 85; (with_reducible refine CF.out.mono ?_); rintro e w2 ⟨rfl, hb2⟩; have H2 := HR.step H0.out hb2; have t2 := (T0.out.below H2.1).below (keep_alloc (below_alloc w2 (.cells #[.string a, .string b] 23)) (.cells #[.func (.func 86) #[] #[], .func (.func 87) #[] #[]] 79)); obtain ⟨c3, c4, c5, c6, c7, c8⟩ := H2.eqs; have T2 := Lib.hid t2; clear t2)
        | (go_at_call 85; (with_reducible refine (CG.out _ _ _ T2.out (Row.made_at _ _ _ (by simp))).mono ?_); rintro e w3 ⟨rfl, hb3⟩; have R6 := Row.over ((Row.made w2 23 #[.string a, .string b]).later (.cells #[.func (.func 86) #[] #[], .func (.func 87) #[] #[]] 79)) hb3; have H3 := HR.step H2 (below_step (keep_alloc (below_alloc w2 (.cells #[.string a, .string b] 23)) _) hb3); obtain ⟨j0, j1, g0, g1⟩ := two_cells R6; obtain ⟨e3, e4, e5, e6, e7, e8⟩ := H3.eqs; have n1 := Nat.ne_of_gt H2.res.inside; have n2 := Nat.ne_of_lt H2.res.inside)
        | fail)
      obtain ⟨n0, d0, R2⟩ := H3.res
      (try simp only [Exit.inBlock, Exit.then])
      refine bodyPost_ret (res_rt rfl rfl (rat_put ⟨_, _, num_far R2 n1 _ _⟩ _ _)) rfl ?_
      exact ⟨rfl, below_put (below_put H3.1 H2.1.size _ _) (Nat.le_succ _) _ _⟩
    | some q =>
      have h1 := fin_some hm
      rw [← hs2] at h1
      obtain ⟨X, hX⟩ : ∃ X, X = dec q.num := ⟨_, rfl⟩
      obtain ⟨Y, hY⟩ : ∃ Y, Y = dec (q.den : Int) := ⟨_, rfl⟩
      show Calls Tryz.prog 57 #[rv n d, .slice A L c] w fun e w' => e = .returned (.tuple #[.agg #[.string (dec q.num), .string (dec (q.den : Int))], .int .i64 0]) ∧ Below w.heap.size w w'
      rw [← hX, ← hY] at h1 ⊢
      rw [h1] at cG
      have CG := Lib.hid cG
      clear cG hs2 h1 hm hX hY
      go_enter Tryz.func57, Tryz.ntmps57
      go_wp2_with (first
        | (go_at_call 85; (with_reducible refine CF.out.mono ?_); rintro e w2 ⟨rfl, hb2⟩; have H2 := HR.step H0.out hb2; have t2 := (T0.out.below H2.1).below (keep_alloc (below_alloc w2 (.cells #[.string a, .string b] 23)) (.cells #[.func (.func 86) #[] #[], .func (.func 87) #[] #[]] 79)); obtain ⟨c3, c4, c5, c6, c7, c8⟩ := H2.eqs; have T2 := Lib.hid t2; clear t2)
        | (go_at_call 85; (with_reducible refine (CG.out _ _ _ T2.out (Row.made_at _ _ _ (by simp))).mono ?_); rintro e w3 ⟨rfl, hb3⟩; have R6 := Row.over ((Row.made w2 23 #[.string a, .string b]).later (.cells #[.func (.func 86) #[] #[], .func (.func 87) #[] #[]] 79)) hb3; have H3 := HR.step H2 (below_step (keep_alloc (below_alloc w2 (.cells #[.string a, .string b] 23)) _) hb3); obtain ⟨j0, j1, g0, g1⟩ := two_cells R6; obtain ⟨e3, e4, e5, e6, e7, e8⟩ := H3.eqs; have n1 := Nat.ne_of_gt H2.res.inside; have n2 := Nat.ne_of_lt H2.res.inside)
        | fail)
      obtain ⟨n0, d0, R2⟩ := H3.res
      (try simp only [Exit.inBlock, Exit.then])
      refine bodyPost_ret (res_rt rfl rfl (rat_put ⟨_, _, num_far R2 n1 _ _⟩ _ _)) rfl ?_
      exact ⟨rfl, below_put (below_put H3.1 H2.1.size _ _) (Nat.le_succ _) _ _⟩
  · have e1 : (if ((a, b, x) : St).2.2 = 0 then makeR ((a, b, x) : St).1 ((a, b, x) : St).2.1 else none) = none := if_neg hx
    rw [e1]
    clear e1
    show Calls Tryz.prog 57 #[rv n d, .slice A L c] w fun e w' => e = .returned (.tuple #[.agg #[.string ⟨#[]⟩, .string ⟨#[]⟩], .int .i64 40]) ∧ Below w.heap.size w w'
    go_enter Tryz.func57, Tryz.ntmps57
    go_wp2_with (first
      | (go_at_call 85; (with_reducible refine CF.out.mono ?_); rintro e w2 ⟨rfl, hb2⟩; have H2 := HR.step H0.out hb2; obtain ⟨c3, c4, c5, c6, c7, c8⟩ := H2.eqs; obtain ⟨e3, e4, e5, e6, e7, e8⟩ := (HR.step H2 (below_alloc w2 (.cells #[.string a, .string b] 23))).eqs)
      | fail)
    obtain ⟨n0, d0, R2⟩ := H2.res
    (try simp only [Exit.inBlock, Exit.then])
    refine bodyPost_ret (res_rt rfl rfl (rat_put ⟨_, _, R2.later _⟩ _ _)) rfl ?_
    exact ⟨rfl, below_put (keep_alloc H2.1 _) (Nat.le_succ _) _ _⟩
theorem build_any (l : List (Value × Stp)) (hl : l.length ≤ 100) (g c : Nat) (n d : ByteArray) (w : World) (ht : Tab w) (h : StepsAt w g l) :
    Calls Tryz.prog 57 #[rv n d, .slice (some ⟨g, 0, none⟩) l.length c] w fun e w' => e = .returned (ov (buildO (l.map Prod.snd) n d)) ∧ Below w.heap.size w w' :=
  build_of _ _ _ n d (runF (l.map Prod.snd) n d 0) w ht fun W hW => follow_any l hl g c n d W (h.below hW)
theorem build_none (n d : ByteArray) (w : World) (ht : Tab w) :
    Calls Tryz.prog 57 #[rv n d, .slice none 0 0] w fun e w' => e = .returned (ov (makeR n d)) ∧ Below w.heap.size w w' :=
  build_of _ _ _ n d (n, d, 0) w ht fun W _ => follow_nil n d W
end Go.Proofs.YtgpncnnlhhmjaaaGreatDoor
