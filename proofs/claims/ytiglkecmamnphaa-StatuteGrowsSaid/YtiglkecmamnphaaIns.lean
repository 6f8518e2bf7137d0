/- inserted. -/
import Derived.Test.YtiglkecmamnphaaEm
import Derived.Test.YtiglkecmamnphaaCy
namespace Go.Proofs.Ytiglkecmamnphaa
open Go.RowKit Go.Sort Go.Lib

theorem ins_app : ∀ {a : List Int} {n : Int} (b : List Int), (∀ y ∈ a, y < n) → insI (a ++ b) n = a ++ insI b n
  | [], n, b, _ => rfl
  | x :: a, n, b, h => by
    have hx := h x (List.mem_cons_self ..)
    have ih := ins_app (a := a) (n := n) b fun y hy => h y (List.mem_cons_of_mem _ hy)
    rw [List.cons_append, List.cons_append, insI, if_neg (by omega), if_neg (by omega), ih]
theorem up_drop_gt {l : List Int} {n x : Int} {k : Nat} (hu : Up l) (hx : l[k]? = some x) (hlt : n < x) : ∀ y ∈ l.drop k, n < y := by
  intro y hy
  obtain ⟨i, hi⟩ := List.getElem?_of_mem hy
  rw [List.getElem?_drop] at hi
  rcases Nat.eq_zero_or_pos i with rfl | h0
  · rw [Nat.add_zero, hx] at hi; cases hi; exact hlt
  · have h1 := (List.getElem?_eq_some_iff.1 hx)
    have h2 := (List.getElem?_eq_some_iff.1 hi)
    have := List.pairwise_iff_getElem.1 hu k (k + i) h1.1 h2.1 (by omega)
    rw [h1.2, h2.2] at this
    omega
theorem ins_end_gt : ∀ {b : List Int} {n x : Int}, n < x → insI (x :: b) n = n :: x :: b := fun h => by unfold insI; rw [if_neg (by omega), if_pos h]

set_option maxRecDepth 100000 in
set_option maxHeartbeats 8000000 in
theorem inserted_any (l : List Int) (n : Int) (v : Value) (hu : Up l) (h9 : l.length ≤ 100) (w : World) (hv : IRow w v l) :
    Calls Try.prog 20 #[v, .int .i64 n] w fun e w' => ∃ v', e = .returned v' ∧ IRow w' v' (insI l n) ∧ Below w.heap.size w w' := by
  obtain ⟨A, c, rfl⟩ := own_len hv
  obtain ⟨L, hL⟩ : ∃ L, L = l.length := ⟨_, rfl⟩
  have hN := own_ints rfl hv
  rw [← hL] at hv h9 ⊢
  have HV : Hid (∀ W, Below w.heap.size w W → IRow W (.slice A L c) l) := Lib.hid (fun W hb => IRow.step hv hb)
  obtain ⟨i0, hi0, hz0, hz1, hz2⟩ := info_parts int_info
  have HL := Lib.hid hL; have HN := Lib.hid hN; have HU := Lib.hid hu; have INF := Lib.hid (And.intro hi0 (And.intro hz0 (And.intro hz1 hz2)))
  clear hL hN hu hv hi0 hz0 hz1 hz2
  go_enter Try.func20, Try.ntmps20
  go_wp2
  go_loopg [5, 6, 7] L (fun kx s5 s6 s7 wr => ∃ (k : Nat) (p : Bool) (O : List Int), s7 = .int .i64 (k : Int) ∧ s6 = .bool p ∧ k + kx = L ∧ wr.ownsRow w.heap.size 3 1 s5 O.length (iC O) ∧ Below w.heap.size w wr ∧ O.length ≤ k + 1 ∧ Hid (p = false → O = l.take k ∧ ∀ y ∈ l.take k, y < n) ∧ Hid (p = true → O ++ l.drop k = insI l n ∧ ∀ y ∈ l.drop k, n < y))
  case atStart => exact ⟨0, false, [], rfl, rfl, by omega, World.ownsRow_nil _ _ _ _, Below.refl _ _, by simp, Lib.hid (fun _ => ⟨by simp, fun y hy => by simp at hy⟩), Lib.hid (fun h => by cases h)⟩
  case round =>
    obtain ⟨k, p, O, rfl, rfl, hk, ho, hb, hO, I1, I2⟩ := hrel
    by_cases hlt : k < L
    · obtain ⟨x, hx⟩ : ∃ y, l[k]? = some y := at_lt (by rw [← HL.out]; exact hlt)
      obtain ⟨b1, o1, hA, _, e1⟩ := (HN.out.below hb).at hx
      subst hA
      have hsp : l = l.take k ++ x :: l.drop (k + 1) := by
        obtain ⟨q1, q2⟩ := List.getElem?_eq_some_iff.1 hx
        rw [← q2, List.getElem_cons_drop, List.take_append_drop]
      have hdr : l.drop k = x :: l.drop (k + 1) := by
        obtain ⟨q1, q2⟩ := List.getElem?_eq_some_iff.1 hx
        rw [← q2, List.getElem_cons_drop]
      have htk : l.take (k + 1) = l.take k ++ [x] := by rw [List.take_add_one, hx]; rfl
      have hgt := fun (h : n < x) => up_drop_gt HU.out hx h
      have kLi : (k : Int) < (L : Int) := by omega
      have HO := Lib.hid ho; have HB := Lib.hid hb; have HSP := Lib.hid hsp; have HDR := Lib.hid hdr; have HTK := Lib.hid htk; have HGT := Lib.hid hgt; have HX := Lib.hid hx
      clear ho hb hsp hdr htk hgt hx
      by_cases hxn : x = n
      · subst hxn
        cases p
        · have hins : insI l x = l := by
            have h1 := I1.out rfl
            conv => lhs; rw [HSP.out]
            rw [ins_app _ h1.2, insI, if_pos rfl, ← HSP.out]
          have HI := Lib.hid hins
          clear hins
          go_wp2
          go_ret
          exact ⟨_, rfl, by rw [HI.out]; exact HV.out _ HB.out, HB.out⟩
        · exfalso
          have := (I2.out rfl).2 x (by rw [HDR.out]; exact List.mem_cons_self ..)
          omega
      · have hne : (x == n) = false := by simpa using hxn
        cases p
        · have h1 := I1.out rfl
          by_cases hgt2 : n < x
          · have hd : decide (x > n) = true := decide_eq_true hgt2
            have H1 := Lib.hid h1
            clear h1 I1 I2
            go_wp2_with (first
              | (at_builtin; refine wpList_append_lies _ rfl _ _ 49 rfl w.heap.size 3 i0 (.int .i64 0) 1 8 Try.underlying49 INF.out.1 INF.out.2.1 INF.out.2.2.1 INF.out.2.2.2 rfl (by decide) _ _ _ rfl (HO.out.alloc _) ⟨wr.heap.size, 0, none⟩ 1 1 [.int .i64 n] rfl rfl (one_new _ _ _) (by simp [Value.oneCell']) (by omega) (by unfold maxLen; omega) (by omega) (by simp; exact Nat.le_succ_of_le HB.out.size) _ rfl ?_; intro g7 c7 w7 o7 g7' a7 l7; have O7 := Lib.hid o7; have B7 := Lib.hid (keep_grown (keep_alloc HB.out _) g7' (HO.out.alloc _)); have e7 := (HN.out.below B7.out).at HX.out; obtain ⟨_, _, hA', _, e7⟩ := e7; cases hA'; clear o7 g7' a7 l7)
              | (at_builtin; refine wpList_append_lies _ rfl _ _ 49 rfl w.heap.size 3 i0 (.int .i64 0) 1 8 Try.underlying49 INF.out.1 INF.out.2.1 INF.out.2.2.1 INF.out.2.2.2 rfl (by decide) _ _ _ rfl (O7.out.alloc _) ⟨w7.heap.size, 0, none⟩ 1 1 [.int .i64 x] rfl rfl (one_new _ _ _) (by simp [Value.oneCell']) (by omega) (by unfold maxLen; omega) (by omega) (by simp; exact Nat.le_succ_of_le B7.out.size) _ rfl ?_; intro g8 c8 w8 o8 g8' a8 l8; have O8 := Lib.hid o8; have B8 := Lib.hid (keep_grown (keep_alloc B7.out _) g8' (O7.out.alloc _)); clear o8 g8' a8 l8)
              | fail)
            go_roundg (L - (k + 1))
            case measure => omega
            case rel =>
              refine ⟨k + 1, true, O ++ [n] ++ [x], by go_num, rfl, by omega, ?_, B8.out, by simp; have := H1.out.1; rw [this] at hO ⊢; simp [List.length_take] at *; omega, Lib.hid (fun h => by cases h), Lib.hid (fun _ => ⟨?_, fun y hy => HGT.out hgt2 y (by rw [HDR.out]; exact List.mem_cons_of_mem _ hy)⟩)⟩
              · have := O8.out
                simpa [iC] using this
              · rw [H1.out.1]
                conv => rhs; rw [HSP.out]
                rw [ins_app _ H1.out.2, ins_end_gt hgt2]
                simp
          · have hd : decide (x > n) = false := decide_eq_false (by omega)
            have H1 := Lib.hid h1
            clear h1 I1 I2
            go_wp2_with (at_builtin; refine wpList_append_lies _ rfl _ _ 49 rfl w.heap.size 3 i0 (.int .i64 0) 1 8 Try.underlying49 INF.out.1 INF.out.2.1 INF.out.2.2.1 INF.out.2.2.2 rfl (by decide) _ _ _ rfl (HO.out.alloc _) ⟨wr.heap.size, 0, none⟩ 1 1 [.int .i64 x] rfl rfl (one_new _ _ _) (by simp [Value.oneCell']) (by omega) (by unfold maxLen; omega) (by omega) (by simp; exact Nat.le_succ_of_le HB.out.size) _ rfl ?_; intro g8 c8 w8 o8 g8' a8 l8; have O8 := Lib.hid o8; have B8 := Lib.hid (keep_grown (keep_alloc HB.out _) g8' (HO.out.alloc _)); clear o8 g8' a8 l8)
            go_roundg (L - (k + 1))
            case measure => omega
            case rel =>
              refine ⟨k + 1, false, O ++ [x], by go_num, rfl, by omega, ?_, B8.out, by simp; omega, Lib.hid (fun _ => ⟨by rw [H1.out.1, HTK.out], fun y hy => ?_⟩), Lib.hid (fun h => by cases h)⟩
              · have := O8.out
                simpa [iC] using this
              · rw [HTK.out] at hy
                rcases List.mem_append.1 hy with hy | hy
                · exact H1.out.2 y hy
                · simp at hy; omega
        · have h2 := I2.out rfl
          have H2 := Lib.hid h2
          clear h2 I1 I2
          go_wp2_with (at_builtin; refine wpList_append_lies _ rfl _ _ 49 rfl w.heap.size 3 i0 (.int .i64 0) 1 8 Try.underlying49 INF.out.1 INF.out.2.1 INF.out.2.2.1 INF.out.2.2.2 rfl (by decide) _ _ _ rfl (HO.out.alloc _) ⟨wr.heap.size, 0, none⟩ 1 1 [.int .i64 x] rfl rfl (one_new _ _ _) (by simp [Value.oneCell']) (by omega) (by unfold maxLen; omega) (by omega) (by simp; exact Nat.le_succ_of_le HB.out.size) _ rfl ?_; intro g8 c8 w8 o8 g8' a8 l8; have O8 := Lib.hid o8; have B8 := Lib.hid (keep_grown (keep_alloc HB.out _) g8' (HO.out.alloc _)); clear o8 g8' a8 l8)
          go_roundg (L - (k + 1))
          case measure => omega
          case rel =>
            refine ⟨k + 1, true, O ++ [x], by go_num, rfl, by omega, ?_, B8.out, by simp; omega, Lib.hid (fun h => by cases h), Lib.hid (fun _ => ⟨?_, fun y hy => H2.out.2 y (by rw [HDR.out]; exact List.mem_cons_of_mem _ hy)⟩)⟩
            · have := O8.out
              simpa [iC] using this
            · rw [← H2.out.1, HDR.out]; simp
    · obtain rfl : k = L := by omega
      have hdk : l.drop k = [] := List.drop_eq_nil_iff.2 (by rw [← HL.out]; exact Nat.le_refl _)
      have htk : l.take k = l := List.take_of_length_le (by rw [← HL.out]; exact Nat.le_refl _)
      have HO := Lib.hid ho; have HB := Lib.hid hb
      clear ho hb
      cases p
      · have h1 := I1.out rfl
        rw [htk] at h1
        have hins : insI l n = O ++ [n] := by
          have := ins_app (a := l) (n := n) [] h1.2
          rw [List.append_nil] at this
          rw [this, h1.1]; rfl
        have HI := Lib.hid hins
        clear h1 hins hdk htk I1 I2
        go_wp2_with (at_builtin; refine wpList_append_lies _ rfl _ _ 49 rfl w.heap.size 3 i0 (.int .i64 0) 1 8 Try.underlying49 INF.out.1 INF.out.2.1 INF.out.2.2.1 INF.out.2.2.2 rfl (by decide) _ _ _ rfl (HO.out.alloc _) ⟨wr.heap.size, 0, none⟩ 1 1 [.int .i64 n] rfl rfl (one_new _ _ _) (by simp [Value.oneCell']) (by omega) (by unfold maxLen; omega) (by omega) (by simp; exact Nat.le_succ_of_le HB.out.size) _ rfl ?_; intro g8 c8 w8 o8 g8' a8 l8; have O8 := Lib.hid o8; have B8 := Lib.hid (keep_grown (keep_alloc HB.out _) g8' (HO.out.alloc _)); clear o8 g8' a8 l8)
        go_ret
        refine ⟨_, rfl, ?_, B8.out⟩
        rw [HI.out]
        refine IRow.of (B := w.heap.size) ?_
        have := O8.out
        simpa [iC] using this
      · have h2 := I2.out rfl
        rw [hdk, List.append_nil] at h2
        have HI := Lib.hid h2.1
        clear h2 hdk htk I1 I2
        go_wp2
        go_ret
        refine ⟨_, rfl, ?_, HB.out⟩
        rw [← HI.out]
        exact IRow.of HO.out
end Go.Proofs.Ytiglkecmamnphaa
