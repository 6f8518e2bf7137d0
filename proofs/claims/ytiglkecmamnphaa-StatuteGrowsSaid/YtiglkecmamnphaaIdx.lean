/- slices.IndexFunc, slices.ContainsFunc, whatever the function does to memory. -/
import Derived.Test.YtiglkecmamnphaaWh
namespace Go.Proofs.Ytiglkecmamnphaa
open Go.RowKit Go.Sort Go.Lib

set_option maxRecDepth 100000 in
set_option maxHeartbeats 8000000 in
theorem idxI (l : List Int) (A : Option Addr) (c f : Nat) (cb : Array Value) (he : ∀ args W, (callFunc f args).run Try.prog W = .ok (.enter f args) W) (hn : l.length ≤ Big) (J : Nat → World → Prop) (Pos : World → Prop) (w : World) (hl : ∀ i W, J i W → Nums W W.heap.size A l) (h0 : J 0 w)
    (hf : ∀ i x W, l[i]? = some x → J i W → Calls Try.prog f (#[.int .i64 x] ++ cb) W fun e w' => ∃ b, e = .returned (.bool b) ∧ (b = true → Pos w') ∧ (b = false → J (i + 1) w')) :
    Calls Try.prog 81 #[.slice A l.length c, .func (.func f) #[] cb] w fun e w' => ∃ r : Int, e = .returned (.int .i64 r) ∧ ((0 ≤ r ∧ Pos w') ∨ (r = -1 ∧ J l.length w')) := by
  obtain ⟨L, hL⟩ : ∃ L, L = l.length := ⟨_, rfl⟩
  rw [← hL]
  rw [← hL] at hn
  replace hn : L ≤ 9223372036854775807 := hn
  have HL := Lib.hid hL; have HN := Lib.hid hl; have HF := Lib.hid hf; have H0 := Lib.hid h0
  clear hL hl hf h0
  go_enter Try.func81, Try.ntmps81
  go_wp2
  go_loopg [5, 8] L (fun kx s5 s8 wr => ∃ k : Nat, s8 = .int .i64 (k : Int) ∧ k + kx = L ∧ J k wr)
  case atStart => exact ⟨0, rfl, by omega, H0.out⟩
  case round =>
    obtain ⟨k, rfl, hk, hj⟩ := hrel
    by_cases hlt : k < L
    · obtain ⟨x, hv⟩ : ∃ y, l[k]? = some y := at_lt (by rw [← HL.out]; exact hlt)
      obtain ⟨bb, o, hA, hbb, e0⟩ := (HN.out _ _ hj).at hv
      subst hA
      have hx := HF.out k x wr hv hj
      have HX := Lib.hid hx
      clear hx hv hj

      go_wp2_with (first | (go_at_fn f; (refine HX.out.mono ?_); rintro e w2 ⟨b, rfl, hb1, hb2⟩; have P1 := Lib.hid hb1; have P2 := Lib.hid hb2; clear hb1 hb2) | fail)
      · go_ret
        exact ⟨_, rfl, .inl ⟨Int.natCast_nonneg k, P1.out (by assumption)⟩⟩
      · go_roundg (L - (k + 1))
        case measure => omega
        case rel => exact ⟨k + 1, by go_num, by omega, P2.out (by assumption)⟩
    · have HK := Lib.hid hj
      clear hj
      go_wp2
      go_ret
      have : k = L := by omega
      subst this
      exact ⟨_, rfl, .inr ⟨rfl, HK.out⟩⟩

set_option maxRecDepth 100000 in
set_option maxHeartbeats 8000000 in
theorem conI (l : List Int) (A : Option Addr) (c f : Nat) (cb : Array Value) (he : ∀ args W, (callFunc f args).run Try.prog W = .ok (.enter f args) W) (hn : l.length ≤ Big) (J : Nat → World → Prop) (Pos : World → Prop) (w : World) (hl : ∀ i W, J i W → Nums W W.heap.size A l) (h0 : J 0 w)
    (hf : ∀ i x W, l[i]? = some x → J i W → Calls Try.prog f (#[.int .i64 x] ++ cb) W fun e w' => ∃ b, e = .returned (.bool b) ∧ (b = true → Pos w') ∧ (b = false → J (i + 1) w')) :
    Calls Try.prog 69 #[.slice A l.length c, .func (.func f) #[] cb] w fun e w' => ∃ b, e = .returned (.bool b) ∧ (b = true → Pos w') ∧ (b = false → J l.length w') := by
  have h := idxI l A c f cb he hn J Pos w hl h0 hf
  have H := Lib.hid h
  clear h hf hl h0 he hn
  generalize l.length = L at *
  go_enter Try.func69, Try.ntmps69
  go_wp2_with (first | (go_at_call 81; (with_reducible refine H.out.mono ?_); rintro e w2 ⟨r, rfl, hr⟩; have HR := Lib.hid hr; clear hr) | fail)
  go_ret
  refine ⟨decide (0 ≤ r), by simp, fun hb => ?_, fun hb => ?_⟩
  · rcases HR.out with ⟨_, h⟩ | ⟨h, _⟩
    · exact h
    · rw [h] at hb; cases hb
  · rcases HR.out with ⟨h, _⟩ | ⟨_, h⟩
    · rw [decide_eq_true h] at hb; cases hb
    · exact h

set_option maxRecDepth 100000 in
set_option maxHeartbeats 8000000 in
theorem idxR (l : List Rpl) (A : Option Addr) (c f : Nat) (cb : Array Value) (he : ∀ args W, (callFunc f args).run Try.prog W = .ok (.enter f args) W) (hn : l.length ≤ Big) (J : Nat → World → Prop) (Pos : World → Prop) (w : World) (hl : ∀ (i : Nat) (x : Rpl), l[i]? = some x → ∃ b o : Nat, A = some ⟨b, o, none⟩ ∧ b < w.heap.size ∧ w.cell? ⟨b, o + i * 3, none⟩ = some (.int .i64 x.clause) ∧ w.cell? ⟨b, o + i * 3 + 1, none⟩ = some (.int .i64 x.pub) ∧ w.cell? ⟨b, o + i * 3 + 2, none⟩ = some (.int .i64 x.frm)) (hJ : ∀ i W, J i W → Below w.heap.size w W) (h0 : J 0 w)
    (hf : ∀ i x W, l[i]? = some x → J i W → Calls Try.prog f (#[.agg (rplC x)] ++ cb) W fun e w' => ∃ b, e = .returned (.bool b) ∧ (b = true → Pos w') ∧ (b = false → J (i + 1) w')) :
    Calls Try.prog 73 #[.slice A l.length c, .func (.func f) #[] cb] w fun e w' => ∃ r : Int, e = .returned (.int .i64 r) ∧ ((0 ≤ r ∧ Pos w') ∨ (r = -1 ∧ J l.length w')) := by
  obtain ⟨L, hL⟩ : ∃ L, L = l.length := ⟨_, rfl⟩
  rw [← hL]
  rw [← hL] at hn
  replace hn : L ≤ 9223372036854775807 := hn
  have HL := Lib.hid hL; have HN := Lib.hid hl; have HF := Lib.hid hf; have HJ := Lib.hid hJ; have H0 := Lib.hid h0
  clear hL hl hf hJ h0
  go_enter Try.func73, Try.ntmps73
  go_wp2
  go_loopg [5, 8] L (fun kx s5 s8 wr => ∃ k : Nat, s8 = .int .i64 (k : Int) ∧ k + kx = L ∧ J k wr)
  case atStart => exact ⟨0, rfl, by omega, H0.out⟩
  case round =>
    obtain ⟨k, rfl, hk, hj⟩ := hrel
    by_cases hlt : k < L
    · obtain ⟨x, hv⟩ : ∃ y, l[k]? = some y := at_lt (by rw [← HL.out]; exact hlt)
      obtain ⟨bb, o, hA, hbb, q0, q1, q2⟩ := HN.out k x hv
      have hb := HJ.out _ _ hj
      have e0 := (hb.cell (p := ⟨bb, o + k * 3, none⟩) hbb).trans q0
      have e1 := (hb.cell (p := ⟨bb, o + k * 3 + 1, none⟩) hbb).trans q1
      have e2 := (hb.cell (p := ⟨bb, o + k * 3 + 2, none⟩) hbb).trans q2
      clear hb q0 q1 q2
      subst hA
      have hx := HF.out k x wr hv hj
      have HX := Lib.hid hx
      clear hx hv hj
      unfold rplC at HX
      go_wp2_with (first | (go_at_fn f; (refine HX.out.mono ?_); rintro e w2 ⟨b, rfl, hb1, hb2⟩; have P1 := Lib.hid hb1; have P2 := Lib.hid hb2; clear hb1 hb2) | fail)
      · go_ret
        exact ⟨_, rfl, .inl ⟨Int.natCast_nonneg k, P1.out (by assumption)⟩⟩
      · go_roundg (L - (k + 1))
        case measure => omega
        case rel => exact ⟨k + 1, by go_num, by omega, P2.out (by assumption)⟩
    · have HK := Lib.hid hj
      clear hj
      go_wp2
      go_ret
      have : k = L := by omega
      subst this
      exact ⟨_, rfl, .inr ⟨rfl, HK.out⟩⟩

set_option maxRecDepth 100000 in
set_option maxHeartbeats 8000000 in
theorem conR (l : List Rpl) (A : Option Addr) (c f : Nat) (cb : Array Value) (he : ∀ args W, (callFunc f args).run Try.prog W = .ok (.enter f args) W) (hn : l.length ≤ Big) (J : Nat → World → Prop) (Pos : World → Prop) (w : World) (hl : ∀ (i : Nat) (x : Rpl), l[i]? = some x → ∃ b o : Nat, A = some ⟨b, o, none⟩ ∧ b < w.heap.size ∧ w.cell? ⟨b, o + i * 3, none⟩ = some (.int .i64 x.clause) ∧ w.cell? ⟨b, o + i * 3 + 1, none⟩ = some (.int .i64 x.pub) ∧ w.cell? ⟨b, o + i * 3 + 2, none⟩ = some (.int .i64 x.frm)) (hJ : ∀ i W, J i W → Below w.heap.size w W) (h0 : J 0 w)
    (hf : ∀ i x W, l[i]? = some x → J i W → Calls Try.prog f (#[.agg (rplC x)] ++ cb) W fun e w' => ∃ b, e = .returned (.bool b) ∧ (b = true → Pos w') ∧ (b = false → J (i + 1) w')) :
    Calls Try.prog 55 #[.slice A l.length c, .func (.func f) #[] cb] w fun e w' => ∃ b, e = .returned (.bool b) ∧ (b = true → Pos w') ∧ (b = false → J l.length w') := by
  have h := idxR l A c f cb he hn J Pos w hl hJ h0 hf
  have H := Lib.hid h
  clear h hf hl hJ h0 he hn
  generalize l.length = L at *
  go_enter Try.func55, Try.ntmps55
  go_wp2_with (first | (go_at_call 73; (with_reducible refine H.out.mono ?_); rintro e w2 ⟨r, rfl, hr⟩; have HR := Lib.hid hr; clear hr) | fail)
  go_ret
  refine ⟨decide (0 ≤ r), by simp, fun hb => ?_, fun hb => ?_⟩
  · rcases HR.out with ⟨_, h⟩ | ⟨h, _⟩
    · exact h
    · rw [h] at hb; cases hb
  · rcases HR.out with ⟨h, _⟩ | ⟨_, h⟩
    · rw [decide_eq_true h] at hb; cases hb
    · exact h

set_option maxRecDepth 100000 in
set_option maxHeartbeats 8000000 in
theorem idxF (l : List Fd) (A : Option Addr) (c f : Nat) (cb : Array Value) (he : ∀ args W, (callFunc f args).run Try.prog W = .ok (.enter f args) W) (hn : l.length ≤ Big) (J : Nat → World → Prop) (Pos : World → Prop) (w : World) (hl : ∀ (i : Nat) (x : Fd), l[i]? = some x → ∃ b o : Nat, A = some ⟨b, o, none⟩ ∧ b < w.heap.size ∧ w.cell? ⟨b, o + i * 4, none⟩ = some (.int .i64 x.1) ∧ w.cell? ⟨b, o + i * 4 + 1, none⟩ = some (.bool x.2.1) ∧ w.cell? ⟨b, o + i * 4 + 2, none⟩ = some (.int .i64 x.2.2.1) ∧ w.cell? ⟨b, o + i * 4 + 3, none⟩ = some (.int .i64 x.2.2.2)) (hJ : ∀ i W, J i W → Below w.heap.size w W) (h0 : J 0 w)
    (hf : ∀ i x W, l[i]? = some x → J i W → Calls Try.prog f (#[.agg (fdC x)] ++ cb) W fun e w' => ∃ b, e = .returned (.bool b) ∧ (b = true → Pos w') ∧ (b = false → J (i + 1) w')) :
    Calls Try.prog 78 #[.slice A l.length c, .func (.func f) #[] cb] w fun e w' => ∃ r : Int, e = .returned (.int .i64 r) ∧ ((0 ≤ r ∧ Pos w') ∨ (r = -1 ∧ J l.length w')) := by
  obtain ⟨L, hL⟩ : ∃ L, L = l.length := ⟨_, rfl⟩
  rw [← hL]
  rw [← hL] at hn
  replace hn : L ≤ 9223372036854775807 := hn
  have HL := Lib.hid hL; have HN := Lib.hid hl; have HF := Lib.hid hf; have HJ := Lib.hid hJ; have H0 := Lib.hid h0
  clear hL hl hf hJ h0
  go_enter Try.func78, Try.ntmps78
  go_wp2
  go_loopg [5, 8] L (fun kx s5 s8 wr => ∃ k : Nat, s8 = .int .i64 (k : Int) ∧ k + kx = L ∧ J k wr)
  case atStart => exact ⟨0, rfl, by omega, H0.out⟩
  case round =>
    obtain ⟨k, rfl, hk, hj⟩ := hrel
    by_cases hlt : k < L
    · obtain ⟨x, hv⟩ : ∃ y, l[k]? = some y := at_lt (by rw [← HL.out]; exact hlt)
      obtain ⟨bb, o, hA, hbb, q0, q1, q2, q3⟩ := HN.out k x hv
      have hb := HJ.out _ _ hj
      have e0 := (hb.cell (p := ⟨bb, o + k * 4, none⟩) hbb).trans q0
      have e1 := (hb.cell (p := ⟨bb, o + k * 4 + 1, none⟩) hbb).trans q1
      have e2 := (hb.cell (p := ⟨bb, o + k * 4 + 2, none⟩) hbb).trans q2
      have e3 := (hb.cell (p := ⟨bb, o + k * 4 + 3, none⟩) hbb).trans q3
      clear hb q0 q1 q2 q3
      subst hA
      have hx := HF.out k x wr hv hj
      have HX := Lib.hid hx
      clear hx hv hj
      unfold fdC at HX
      go_wp2_with (first | (go_at_fn f; (refine HX.out.mono ?_); rintro e w2 ⟨b, rfl, hb1, hb2⟩; have P1 := Lib.hid hb1; have P2 := Lib.hid hb2; clear hb1 hb2) | fail)
      · go_ret
        exact ⟨_, rfl, .inl ⟨Int.natCast_nonneg k, P1.out (by assumption)⟩⟩
      · go_roundg (L - (k + 1))
        case measure => omega
        case rel => exact ⟨k + 1, by go_num, by omega, P2.out (by assumption)⟩
    · have HK := Lib.hid hj
      clear hj
      go_wp2
      go_ret
      have : k = L := by omega
      subst this
      exact ⟨_, rfl, .inr ⟨rfl, HK.out⟩⟩

set_option maxRecDepth 100000 in
set_option maxHeartbeats 8000000 in
theorem conF (l : List Fd) (A : Option Addr) (c f : Nat) (cb : Array Value) (he : ∀ args W, (callFunc f args).run Try.prog W = .ok (.enter f args) W) (hn : l.length ≤ Big) (J : Nat → World → Prop) (Pos : World → Prop) (w : World) (hl : ∀ (i : Nat) (x : Fd), l[i]? = some x → ∃ b o : Nat, A = some ⟨b, o, none⟩ ∧ b < w.heap.size ∧ w.cell? ⟨b, o + i * 4, none⟩ = some (.int .i64 x.1) ∧ w.cell? ⟨b, o + i * 4 + 1, none⟩ = some (.bool x.2.1) ∧ w.cell? ⟨b, o + i * 4 + 2, none⟩ = some (.int .i64 x.2.2.1) ∧ w.cell? ⟨b, o + i * 4 + 3, none⟩ = some (.int .i64 x.2.2.2)) (hJ : ∀ i W, J i W → Below w.heap.size w W) (h0 : J 0 w)
    (hf : ∀ i x W, l[i]? = some x → J i W → Calls Try.prog f (#[.agg (fdC x)] ++ cb) W fun e w' => ∃ b, e = .returned (.bool b) ∧ (b = true → Pos w') ∧ (b = false → J (i + 1) w')) :
    Calls Try.prog 65 #[.slice A l.length c, .func (.func f) #[] cb] w fun e w' => ∃ b, e = .returned (.bool b) ∧ (b = true → Pos w') ∧ (b = false → J l.length w') := by
  have h := idxF l A c f cb he hn J Pos w hl hJ h0 hf
  have H := Lib.hid h
  clear h hf hl hJ h0 he hn
  generalize l.length = L at *
  go_enter Try.func65, Try.ntmps65
  go_wp2_with (first | (go_at_call 78; (with_reducible refine H.out.mono ?_); rintro e w2 ⟨r, rfl, hr⟩; have HR := Lib.hid hr; clear hr) | fail)
  go_ret
  refine ⟨decide (0 ≤ r), by simp, fun hb => ?_, fun hb => ?_⟩
  · rcases HR.out with ⟨_, h⟩ | ⟨h, _⟩
    · exact h
    · rw [h] at hb; cases hb
  · rcases HR.out with ⟨h, _⟩ | ⟨_, h⟩
    · rw [decide_eq_true h] at hb; cases hb
    · exact h

end Go.Proofs.Ytiglkecmamnphaa
