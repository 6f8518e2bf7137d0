/- agrees: what Agree returns is right. -/
import Derived.Test.YtjhcdkllneeijaaIn
import Derived.Test.YtjhcdkllneeijaaAgr
import Derived.Test.YtjhcdkllneeijaaShw
import Derived.Deep.AppendLies
import Derived.Laws.StructEq
namespace Go.Proofs.Ytjhcdkllneeijaa
open Go.RowKit

theorem inN_pos {l : List (Int × Int)} {x y : Int} (h : (x, y) ∈ l) (hxy : x < y) : 0 < inN l x := List.countP_pos_iff.2 ⟨(x, y), h, by simp [hxy]⟩
/-- Cells of integers. -/
def iC (xs : List Int) : List Value := xs.map (Value.int .i64)
theorem iC_app (a b : List Int) : iC (a ++ b) = iC a ++ iC b := by simp [iC]
theorem own_nums {w : World} {B n cap : Nat} {e : TypeId} {A : Option Addr} {xs : List Int} (hn : n = xs.length) (h : w.ownsRow B e 1 (.slice A n cap) n (iC xs)) : Nums w w.heap.size A xs := by
  rcases h.2 with ⟨_, h1⟩ | ⟨g, c, cur, hv, hB, hg, _, _, hs, ht⟩
  · exact .inl (List.eq_nil_of_length_eq_zero (by omega))
  · have hlt : g < w.heap.size := by
      rcases Nat.lt_or_ge g w.heap.size with k | k
      · exact k
      · rw [Array.getElem?_eq_none k] at hg; cases hg
    cases hv
    refine .inr ⟨g, 0, rfl, hlt, fun i r hr => ?_⟩
    have hi : i < xs.length := (List.getElem?_eq_some_iff.1 hr).1
    have hv : (iC xs)[i]? = some (.int .i64 r) := by rw [iC, List.getElem?_map, hr]; rfl
    rw [← ht, List.getElem?_take_of_lt (by omega), Array.getElem?_toList] at hv
    rw [Nat.zero_add, cell_of_row w g i cur e (0, 0) hg]; exact hv
theorem own_first (W : World) (B g : Nat) (hg : W.heap.size = g) (hB : B ≤ g) (s : Int) : (W.alloc (.cells #[.int .i64 s] 3)).ownsRow B 3 1 (.slice (some ⟨g, 0, none⟩) 1 1) 1 (iC [s]) := by
  subst hg
  exact ⟨rfl, .inr ⟨W.heap.size, 1, #[.int .i64 s], rfl, hB, heap_alloc_new W _, Nat.le_refl _, by unfold maxLen; omega, rfl, rfl⟩⟩
theorem eq_spell2 (a b c d : Int) (w : World) : (binOp .eql 32 (.agg #[.int .i64 a, .int .i64 b]) (.agg #[.int .i64 c, .int .i64 d])).run Try.prog w = .ok (.bool (decide (a = c) && decide (b = d))) w := by
  have u3 := Try.underlying3
  have a3 := Try.isAgg3
  have z3 := Try.sizeOf3
  have hS : Try.prog.underlying 32 = some (.struct (Try.prog.fieldsOf 32)) := by kernel_rfl
  have hp : Try.prog.stoodInHeld 32 = false := by kernel_rfl
  rw [run_eql_struct, show (10000 : Nat) = 9999 + 1 from rfl, run_equalIn_agg w 9999 32 _ _ hS hp]
  simp only [Program.fieldsOf, Try.underlying32]
  go_simp
  by_cases h1 : a = c <;> by_cases h2 : b = d <;> simp [h1, h2]
theorem num_info : (Try.prog.info? 3).map (fun i => (i.zero, i.size, i.bytes)) = some (some (.int .i64 0), 1, 8) := by kernel_rfl
theorem two_new (w : World) (a b : Value) (t : TypeId) : ∀ (j : Nat) (u : Value), [a, b][j]? = some u → (w.alloc (.cells #[a, b] t)).cell? ((⟨w.heap.size, 0, none⟩ : Addr).add j) = some u := by
  intro j u h
  have h2 := (Row.made w t #[a, b]).at (i := j) (v := u) (by simpa using h)
  by_cases h0 : j = 0
  · subst h0; exact h2
  · rw [show (⟨w.heap.size, 0, none⟩ : Addr).add j = ⟨w.heap.size, j, none⟩ by simp [Addr.add, h0]]; exact h2

set_option maxRecDepth 100000 in
set_option maxHeartbeats 16000000 in
theorem agrees_any (l : List (Int × Int)) (hl : l.length ≤ 12) (A : Option Addr) (c : Nat) (s : Int) (w : World) (h : Sps w w.heap.size A l) :
    Calls Try.prog 29 #[.slice A l.length c, .int .i64 s] w fun e w' => e = .returned (.bool true) ∧ Below w.heap.size w w' := by
  obtain ⟨i0, hi0, hz0, hz1, hz2⟩ := info_parts num_info
  have hag := agree_any l (by omega) A c w h
  have hin := fun (v : Int) (W : World) (hb : Below w.heap.size w W) => in_any l (by omega) A c w.heap.size v W (h.below hb)
  have hle := fun v => inN_le l v
  obtain ⟨L, hL⟩ : ∃ L, L = l.length := ⟨_, rfl⟩
  rw [← hL] at hag hin hle hl ⊢
  have es := fun (a b c d : Int) (W : World) => eq_spell2 a b c d W
  have HG := Lib.hid hag; have HI := Lib.hid hin; have HL := Lib.hid hL; have HS := Lib.hid h; have HLE := Lib.hid hle
  clear hag hin hL h hle
  go_enter Try.func29, Try.ntmps29
  go_wp2_with (go_at_call 13; (refine HG.out.mono ?_); rintro e w2 ⟨⟨f, t, K, rfl, hA⟩, hb2⟩; dsimp only [agrV]; have HA := Lib.hid hA; have B2 := Lib.hid hb2; clear hA hb2)
  obtain ⟨W3, hW3⟩ : ∃ W3, W3 = w2.alloc (Obj.cells #[Value.int IntKind.i64 f, Value.int IntKind.i64 t] 32) := ⟨_, rfl⟩
  obtain ⟨W4, hW4⟩ : ∃ W4, W4 = W3.alloc (Obj.cells #[Value.int IntKind.i64 s] 3) := ⟨_, rfl⟩
  have z3 : W3.heap.size = w2.heap.size + 1 := by rw [hW3]; simp
  have r4 : Row W4 w2.heap.size 32 #[.int .i64 f, .int .i64 t] := by rw [hW4, hW3]; exact (Row.made _ _ _).later _
  have b4 : Below w.heap.size w W4 := by rw [hW4, hW3]; exact keep_alloc (keep_alloc B2.out _) _
  have o4 : W4.ownsRow (w2.heap.size + 1) 3 1 (.slice (some ⟨w2.heap.size + 1, 0, none⟩) 1 1) 1 (iC [s]) := by rw [hW4]; exact own_first _ _ _ z3 (Nat.le_refl _) s
  have s4 : w2.heap.size + 1 ≤ W4.heap.size := by rw [hW4]; simp; omega
  have hw2 := B2.out.size
  rw [← hW3, ← hW4]
  have R4 := Lib.hid r4; have B4 := Lib.hid b4; have O4 := Lib.hid o4
  clear r4 b4 o4 hW3 hW4
  go_loopg [7, 8] L (fun kx s7 s8 wr => ∃ (k cap : Nat) (A' : Option Addr) (xs : List Int), s7 = .slice A' xs.length cap ∧ s8 = .int .i64 (k : Int) ∧ k + kx = L ∧ xs.length ≤ 1 + 2 * k ∧ Row wr w2.heap.size 32 #[.int .i64 f, .int .i64 t] ∧ Below w.heap.size w wr ∧ w2.heap.size + 1 ≤ wr.heap.size ∧ wr.ownsRow (w2.heap.size + 1) 3 1 (.slice A' xs.length cap) xs.length (iC xs))
  case atStart => exact ⟨0, 1, _, [s], rfl, rfl, by omega, by simp, R4.out, B4.out, s4, O4.out⟩
  case round =>
    clear R4 B4 O4 s4
    obtain ⟨k, cap, A', xs, rfl, rfl, hk, hx, r5, b5, s5, o5⟩ := hrel
    by_cases hlt : k < L
    · obtain ⟨⟨x, y⟩, hv⟩ : ∃ y, l[k]? = some y := ⟨l[k]'(by rw [← HL.out]; exact hlt), by simp⟩
      obtain ⟨bb, o, hA, hbb, e0, e1⟩ := (HS.out.below b5).at hv
      subst hA
      dsimp only at e0 e1
      obtain ⟨M, hM⟩ : ∃ M, M = xs.length := ⟨_, rfl⟩
      rw [← hM] at o5 hx ⊢
      have R5 := Lib.hid r5; have B5 := Lib.hid b5; have O5 := Lib.hid o5; have HM := Lib.hid hM
      have h2 := two_new wr.drew (.int .i64 x) (.int .i64 y) 3
      have H2 := Lib.hid h2
      have q1 : M + 2 ≤ maxLen := by unfold maxLen; omega
      have q2 : (M + 2) * 8 ≤ 140737488355328 := by omega
      have HV := Lib.hid hv
      clear r5 b5 o5 hM hv h2
      have hk2 : ∀ W, Below w.heap.size w W → (Hid (Below w.heap.size w W) ∧ W.cell? ⟨bb, o + k * 2, none⟩ = some (.int .i64 x) ∧ W.cell? ⟨bb, o + k * 2 + 1, none⟩ = some (.int .i64 y)) := fun W hb => by
        obtain ⟨b', o', hA', _, e0', e1'⟩ := (HS.out.below hb).at HV.out
        cases hA'
        exact ⟨Lib.hid hb, e0', e1'⟩
      have hg2 : ∀ W, (Hid (Below w.heap.size w W) ∧ W.cell? ⟨bb, o + k * 2, none⟩ = some (.int .i64 x) ∧ W.cell? ⟨bb, o + k * 2 + 1, none⟩ = some (.int .i64 y)) → Below w.heap.size w W := fun W h => h.1.out
      have KK := Lib.hid hk2; have GG := Lib.hid hg2
      have q3 : w2.heap.size + 1 ≤ ((wr.alloc (Obj.cells #[Value.int IntKind.i64 x, Value.int IntKind.i64 y] 3)).drew).heap.size := by
        show w2.heap.size + 1 ≤ (wr.heap.push _).size
        simp; omega
      have h2' := two_new wr (.int .i64 x) (.int .i64 y) 3
      have H3 := Lib.hid h2'
      clear hk2 hg2 h2'
      go_wp2
      go_region_held3 (fun W => Hid (Below w.heap.size w W) ∧ W.cell? ⟨bb, o + k * 2, none⟩ = some (.int .i64 x) ∧ W.cell? ⟨bb, o + k * 2 + 1, none⟩ = some (.int .i64 y))
        (first | assumption | exact KK.out _ B5.out.drew | exact KK.out _ (keep_alloc B5.out _).drew | exact KK.out _ (keep_alloc B5.out.drew _) | exact KK.out _ (keep_alloc (GG.out _ (by assumption)) _) | exact KK.out _ (GG.out _ (by assumption)).drew | exact KK.out _ (((keep_alloc B5.out _).drew).grown hgrow (by have := q3; omega) (fun j ej => by have := (O5.out.lt j ej).1; omega)))
        ((refine step_append_lies _ (by rfl) _ _ _ (by rfl) (w2.heap.size + 1) 3 i0 _ 1 8 Try.underlying25 hi0 hz0 hz1 hz2 rfl (by decide) (.slice A' M cap) M (iC xs) (by rfl) ((O5.out.alloc _).drew) ⟨wr.heap.size, 0, none⟩ 2 2 [.int .i64 x, .int .i64 y] (by rfl) (by rfl) H3.out (by simp [Value.oneCell']) (by decide) q1 q2 q3 (wr.heap.size + 1) (by simp) ?_; intro gg cap2 w6 hown6 hgrow hat hlt6))
      have hno : ∀ j, (Value.slice A' M cap).ownBlock = some j → w2.heap.size + 1 ≤ j := fun j ej => (O5.out.lt j ej).1
      have t1 : Row w6 w2.heap.size 32 #[.int .i64 f, .int .i64 t] := ((R5.out.later _).drawn).grown hgrow (fun e => by have := hno _ e.symm; omega)
      have t2 : Below w.heap.size w w6 := ((keep_alloc B5.out _).drew).grown hgrow (by have := q3; omega) (fun j ej => by have := hno j ej; omega)
      have t3 : w2.heap.size + 1 ≤ w6.heap.size := Nat.le_trans q3 hgrow.size
      have hlen : (xs ++ [x, y]).length = M + 2 := by rw [List.length_append, ← HM.out]; rfl
      have T1 := Lib.hid t1; have T2 := Lib.hid t2; have T3 := Lib.hid t3; have TO := Lib.hid hown6; have TL := Lib.hid hlen
      clear t1 t2 t3 hown6 hgrow hat hlt6 hlen hno
      go_wp2
      go_roundg (L - (k + 1))
      case measure => omega
      case rel => exact ⟨k + 1, cap2, _, xs ++ [x, y], by rw [TL.out], by go_num, by omega, by rw [TL.out]; omega, T1.out, T2.out, T3.out, by rw [TL.out, iC_app]; exact TO.out⟩
    · have hnm := own_nums rfl o5
      obtain ⟨M, hM⟩ : ∃ M, M = xs.length := ⟨_, rfl⟩
      rw [← hM] at hx ⊢
      obtain ⟨k0, k1, k2, k3⟩ := r5.two
      have R5 := Lib.hid r5; have B5 := Lib.hid b5; have HM := Lib.hid hM; have HX := Lib.hid hnm
      clear r5 b5 o5 hM hnm
      rcases HA.out with ⟨rfl, rfl, rfl, hz⟩ | ⟨a0, a1, a2, a3, a4, a5⟩
      · have HZ := Lib.hid hz
        clear hz
        go_wp2
        go_loopg [9] L (fun kx s9 wr' => ∃ (j : Nat), s9 = .int .i64 (j : Int) ∧ j + kx = L ∧ ∃ n, wr' = wr.drewN n)
        case atStart => exact ⟨0, rfl, by omega, 0, rfl⟩
        case round =>
          obtain ⟨j, rfl, hj, n, rfl⟩ := hrel
          by_cases hjl : j < L
          · obtain ⟨⟨x, y⟩, hv⟩ : ∃ y, l[j]? = some y := ⟨l[j]'(by rw [← HL.out]; exact hjl), by simp⟩
            obtain ⟨bb, o, hA, hbb, e0, e1⟩ := (HS.out.below B5.out).at hv
            subst hA
            dsimp only at e0 e1
            have hxy : decide (x < y) = false := decide_eq_false (fun h => by
              have := inN_pos (List.mem_of_getElem? hv) h
              rw [HZ.out x] at this; omega)
            clear hv
            go_wp2
            go_quiet (fail)
            go_wp2
            go_roundg (L - (j + 1))
            case measure => omega
            case rel => exact ⟨j + 1, by go_num, by omega, _, rfl⟩
          · go_wp2
            go_ret
            exact ⟨by simp, below_drawnN B5.out _⟩
      · have i1 := fun (W : World) (hb : Below w.heap.size w W) => HI.out f W hb
        have i2 := fun (W : World) (hb : Below w.heap.size w W) => HI.out t W hb
        rw [a4 f (Int.le_refl _) a1] at i1
        have hm0 : (0 : Int) ≤ (inN l t : Int) := by omega
        have hkb : K ≤ 12 := by have h1 := a4 f (Int.le_refl _) a1; have h2 := HLE.out f; omega
        generalize (inN l t : Int) = m at *
        have I1 := Lib.hid i1; have I2 := Lib.hid i2; have A3 := Lib.hid a3; have A4 := Lib.hid a4; have A2 := Lib.hid a2
        clear i1 i2 a2 a3 a4
        go_wp2_with (go_at_call 41; (first | (with_reducible refine (I1.out _ B5.out).mono ?_) | (with_reducible refine (I2.out _ B5.out).mono ?_)); rintro e wx ⟨rfl, hwx⟩; have hwx := hwx.symm; subst hwx)
        go_loopg [10, 11, 12] M (fun kx s10 s11 s12 wr' => ∃ (j : Nat), s10 = .int .i64 (j : Int) ∧ j + kx = M ∧ ∃ n, wr' = wr.drewN n)
        case atStart => exact ⟨0, rfl, by omega, 0, rfl⟩
        case round =>
          obtain ⟨j, rfl, hj, n, rfl⟩ := hrel
          by_cases hjl : j < M
          · obtain ⟨v, hv⟩ : ∃ y, xs[j]? = some y := ⟨xs[j]'(by rw [← HM.out]; exact hjl), by simp⟩
            obtain ⟨gb, go, hA, _, e0⟩ := HX.out.at hv
            subst hA
            have iv := fun (W : World) (hb : Below w.heap.size w W) => HI.out v W hb
            have c2 := A2.out v
            have c3 := A3.out v
            have c4 := A4.out v
            have c5 : (0 : Int) ≤ (inN l v : Int) := by omega
            generalize (inN l v : Int) = nv at *
            have IV := Lib.hid iv
            clear iv hv
            have g1 : decide (K < nv) = false := decide_eq_false (by omega)
            by_cases v1 : v < f
            · have g2 : decide (f ≤ v) = false := decide_eq_false (by omega)
              have g3 : decide (nv = K) = false := decide_eq_false (by have := c3 v1; omega)
              have g4 : (nv == K) = false := by simpa using g3
              have g5 : decide (v < f) = true := decide_eq_true v1
              clear c2 c3 c4
              go_wp2_with (go_at_call 41; (with_reducible refine (IV.out _ (below_drawnN B5.out _)).mono ?_); rintro e wx ⟨rfl, hwx⟩; have hwx := hwx.symm; subst hwx)
              go_quiet (fail)
              go_wp2
              go_quiet (fail)
              go_wp2
              go_roundg (M - (j + 1))
              case measure => omega
              case rel => exact ⟨j + 1, by go_num, by omega, _, rfl⟩
            · have g2 : decide (f ≤ v) = true := decide_eq_true (by omega)
              have g5 : decide (v < f) = false := decide_eq_false v1
              by_cases v2 : v < t
              · obtain rfl := c4 (by omega) v2
                have g6 : decide (v < t) = true := decide_eq_true v2
                clear c2 c3 c4
                go_wp2_with (go_at_call 41; (with_reducible refine (IV.out _ (below_drawnN B5.out _)).mono ?_); rintro e wx ⟨rfl, hwx⟩; have hwx := hwx.symm; subst hwx)
                go_quiet (fail)
                go_wp2
                go_quiet (fail)
                go_wp2
                go_roundg (M - (j + 1))
                case measure => omega
                case rel => exact ⟨j + 1, by go_num, by omega, _, rfl⟩
              · have g6 : decide (v < t) = false := decide_eq_false v2
                clear c2 c3 c4
                go_wp2_with (go_at_call 41; (with_reducible refine (IV.out _ (below_drawnN B5.out _)).mono ?_); rintro e wx ⟨rfl, hwx⟩; have hwx := hwx.symm; subst hwx)
                go_quiet (fail)
                go_wp2
                go_quiet (fail)
                go_wp2
                go_roundg (M - (j + 1))
                case measure => omega
                case rel => exact ⟨j + 1, by go_num, by omega, _, rfl⟩
          · go_wp2
            go_ret
            exact ⟨rfl, below_drawnN B5.out _⟩
end Go.Proofs.Ytjhcdkllneeijaa
