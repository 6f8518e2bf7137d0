/- With: bounds with a further one. -/
import Derived.Test.YtkeimfkaoianmaaMa2
import Derived.Deep.AppendLies
import Derived.Laws.AppendOwnNone
namespace Go.Proofs.Ytkeimfkaoianmaa
open Go.RowKit

theorem run_append_none (w : World) (base : Nat) (t ty e : TypeId) (i : TypeInfo) (size c : Nat) (ht : Try.prog.underlying t = some (.slice e)) (hi : Try.prog.info? e = some i)
    (v : Value) (n : Nat) (xs : List Value) (hown : w.ownsRow base e size v n xs) :
    (Builtin.append_ #[t, t] ty #[v, .slice none 0 c]).run Try.prog w = .ok v w := by
  rcases hown.2 with ⟨rfl, rfl⟩ | ⟨g, cap, cur, rfl, _, _, hnc, _⟩
  · simp [Builtin.append_, run_underlying ht, sizeOf, typeInfo, hi, Builtin.lenOf, Builtin.firstCells]
  · simp [Builtin.append_, run_underlying ht, sizeOf, typeInfo, hi, Builtin.lenOf, Builtin.firstCells, hnc, storeCells]
theorem wp_append_bnds {w : World} {o : Oper} {a : Act} {K : Act → World → Prop} {Q : Exit → Act → World → Prop} (s x : Operand)
    (ho : o.op = .call { callee := .builtin .append, args := #[s, x], argTypes := #[26, 26] })
    (base : Nat) (v : Value) (n : Nat) (l : List Bn) (hs : a.eval s = v) (hown : w.ownsRow base 30 3 v n (flat3 l))
    (A : Option Addr) (m c : Nat) (news : List Bn) (hx : a.eval x = .slice A m c) (hm : m = news.length) (hN : Rds w w.heap.size A news) (hnm : n + m ≤ 1000) (hbase : base ≤ w.heap.size)
    (h : ∀ v' w', w'.ownsRow base 30 3 v' (n + m) (flat3 (l ++ news)) → w.grownBy w' v.ownBlock → K (a.put o.dst v') w') : o.wp Try.prog a w K Q := by
  obtain ⟨i0, hi, hz0, hz1, hz2⟩ := info_parts bnd_info
  match A, hx, hN with
  | none, hx, hN =>
    have hnil : news = [] := by
      rcases hN with h | ⟨b, o, h, _⟩
      · exact h
      · cases h
    subst hnil
    obtain rfl : m = 0 := hm
    have hr := run_append_none w base 26 o.type 30 i0 3 c Try.underlying26 hi v n _ hown
    unfold Oper.wp
    simp [execOp, ho, resolve, invoke, builtin, hs, hx, hr, Result.andThen]
    exact h v w (by simpa using hown) ⟨rfl, rfl, rfl, Nat.le_refl _, fun _ _ _ => rfl⟩
  | some ad, hx, hN =>
    refine wp_append_own _ s x 26 ho base 30 i0 _ 3 24 Try.underlying26 hi hz0 hz1 hz2 (by rfl) (by decide) v n _ hs hown ad m c (flat3 news) hx (by rw [flat3_len, hm]) ?_ ?_ (by unfold maxLen; omega) (by omega) hbase ?_
    · intro j u hj
      have hlt : j < news.length * 3 := by
        rw [← flat3_len]
        exact (List.getElem?_eq_some_iff.1 hj).1
      have hi3 : j / 3 < news.length := by omega
      obtain ⟨r, hr⟩ : ∃ r, news[j / 3]? = some r := at_lt hi3
      obtain ⟨f0, f1, f2⟩ := flat3_at news (j / 3) r hr
      obtain ⟨b, o, hA, _, c0, c1, c2⟩ := hN.at hr
      cases hA
      have e : (⟨b, o, none⟩ : Addr).add j = ⟨b, o + j, none⟩ := by unfold Addr.add; split <;> simp_all
      rw [e]
      rcases (show j % 3 = 0 ∨ j % 3 = 1 ∨ j % 3 = 2 by omega) with q | q | q
      · have ej : j = j / 3 * 3 := by omega
        rw [ej, f0] at hj
        cases hj
        rw [show o + j = o + j / 3 * 3 by omega]
        exact c0
      · have ej : j = j / 3 * 3 + 1 := by omega
        rw [ej, f1] at hj
        cases hj
        rw [show o + j = o + j / 3 * 3 + 1 by omega]
        exact c1
      · have ej : j = j / 3 * 3 + 2 := by omega
        rw [ej, f2] at hj
        cases hj
        rw [show o + j = o + j / 3 * 3 + 2 by omega]
        exact c2
    · intro u hu
      unfold flat3 enc3 at hu
      rw [List.mem_flatMap] at hu
      obtain ⟨r, _, hu⟩ := hu
      simp only [List.mem_cons, List.not_mem_nil, or_false] at hu
      rcases hu with rfl | rfl | rfl <;> rfl
    · intro v' w' h1 h2 _
      exact h v' w' (by rw [flat3_app]; exact h1) h2
theorem step_append_bnds {w : World} {ops : Array Oper} {o : Oper} {a : Act} {K : Act → World → Prop} {Q : Exit → Act → World → Prop} {E : Prop} (hgd : o.guard = none) (s x : Operand)
    (ho : o.op = .call { callee := .builtin .append, args := #[s, x], argTypes := #[26, 26] })
    (base : Nat) (v : Value) (n : Nat) (l : List Bn) (hs : a.eval s = v) (hown : w.ownsRow base 30 3 v n (flat3 l))
    (A : Option Addr) (m c : Nat) (news : List Bn) (hx : a.eval x = .slice A m c) (hm : m = news.length) (hN : Rds w w.heap.size A news) (hnm : n + m ≤ 1000) (hbase : base ≤ w.heap.size)
    (h : ∀ v' w', w'.ownsRow base 30 3 v' (n + m) (flat3 (l ++ news)) → w.grownBy w' v.ownBlock → K (a.put o.dst v') w') :
    if Region.wanted o (yielded ops a.tmps) = true then Oper.wp Try.prog o a w K Q else E := by
  have hw : Region.wanted o (yielded ops a.tmps) = true := by simp [Region.wanted, hgd]
  rw [if_pos hw]
  exact wp_append_bnds s x ho base v n l hs hown A m c news hx hm hN hnm hbase h
theorem own_e (w : World) (B : Nat) (hB : B ≤ w.heap.size) : (w.alloc (.cells #[] 30)).ownsRow B 30 3 (.slice (some ⟨w.heap.size, 0, none⟩) 0 0) 0 (flat3 []) :=
  World.ownsRow_lit w #[] 0 hB (by decide) rfl
theorem bnd_row {w : World} {g : Nat} {f t m : Int} (h : Row w g 30 #[.int .i64 f, .int .i64 t, .int .i64 m]) : Rds w w.heap.size (some ⟨g, 0, none⟩) [(f, t, m)] := by
  refine .inr ⟨g, 0, rfl, h.inside, fun i r hr => ?_⟩
  match i, hr with
  | 0, hr => cases hr; exact ⟨h.at rfl, h.at rfl, h.at rfl⟩
  | i + 1, hr => simp at hr
theorem own_e2 (w : World) (B : Nat) (hB : B ≤ w.heap.size) (C : Array Value) : ((w.alloc (.cells C 30)).alloc (.cells #[] 30)).ownsRow B 30 3 (.slice (some ⟨w.heap.size + 1, 0, none⟩) 0 0) 0 (flat3 []) := by
  have h := own_e (w.alloc (.cells C 30)) B (Nat.le_trans hB (below_alloc w _).size)
  rw [show (w.alloc (.cells C 30)).heap.size = w.heap.size + 1 by simp] at h
  exact h
theorem row_e2 (w : World) (C : Array Value) : Row ((w.alloc (.cells #[] 30)).alloc (.cells C 30)) (w.heap.size + 1) 30 C := Row.made_at _ _ _ (by simp)

set_option maxRecDepth 100000 in
set_option maxHeartbeats 8000000 in
theorem with_any (N : Int) (bs : List Bn) (A : Option Addr) (c : Nat) (f t m : Int) (hl : bs.length ≤ 100) (w : World) (hr : Rds w w.heap.size A bs) :
    Calls Try.prog 36 #[btw N A bs.length c, bnd (f, t, m)] w fun e w' => ∃ (A' : Option Addr) (c' : Nat), e = .returned (btw N A' (bs.length + 1) c') ∧ Rds w' w'.heap.size A' (bs ++ [(f, t, m)]) ∧ Below w.heap.size w w' := by
  obtain ⟨K, hK⟩ : ∃ K, K = bs.length := ⟨_, rfl⟩
  rw [← hK] at hl ⊢
  unfold btw bnd
  dsimp only
  have HK := Lib.hid hK
  clear hK
  go_enter Try.func36, Try.ntmps36
  go_upto_region 1 with (fail)
  obtain ⟨w0, hw0⟩ : ∃ w0, w0 = ((w.alloc (.cells #[.int .i64 N, .slice A K c] 28)).alloc (.cells #[.int .i64 f, .int .i64 t, .int .i64 m] 30)).alloc (.cells #[.int .i64 0, .slice none 0 0] 28) := ⟨_, rfl⟩
  rw [← hw0]
  have r0 : Row w0 w.heap.size 28 #[.int .i64 N, .slice A K c] := by rw [hw0]; exact ((Row.made _ _ _).later _).later _
  have r1 : Row w0 (w.heap.size + 1) 30 #[.int .i64 f, .int .i64 t, .int .i64 m] := by rw [hw0]; exact (Row.made_at _ _ _ (by simp)).later _
  have r2 : Row w0 (w.heap.size + 1 + 1) 28 #[.int .i64 0, .slice none 0 0] := by rw [hw0]; exact Row.made_at _ _ _ (by simp)
  have b0 : Below w.heap.size w w0 := by rw [hw0]; exact keep_alloc (keep_alloc (below_alloc _ _) _) _
  have HR := Lib.hid (hr.deep b0); have B0 := Lib.hid b0; have R2 := Lib.hid r2
  have le : w.heap.size + 1 + 1 ≤ w0.heap.size := Nat.le_of_lt r2.inside
  have both : ∀ W, Below (w.heap.size + 1 + 1) w0 W → (Below (w.heap.size + 1 + 1) w0 W ∧ W.cell? ⟨w.heap.size, 0, none⟩ = some (.int .i64 N) ∧ W.cell? ⟨w.heap.size, 1, none⟩ = some (.slice A K c) ∧ W.cell? ⟨w.heap.size + 1, 0, none⟩ = some (.int .i64 f) ∧ W.cell? ⟨w.heap.size + 1, 1, none⟩ = some (.int .i64 t) ∧ W.cell? ⟨w.heap.size + 1, 2, none⟩ = some (.int .i64 m)) := fun W b => by
    have a0 := (r0.below b (by omega)).two; have a1 := (r1.below b (by omega)).three
    exact ⟨b, a0.1, a0.2.1, a1.1, a1.2.1, a1.2.2.1⟩
  have BOTH := Lib.hid both; have LE := Lib.hid le
  clear hw0 r0 r1 r2 b0 hr both le
  go_region_held3 (fun W => Below (w.heap.size + 1 + 1) w0 W ∧ W.cell? ⟨w.heap.size, 0, none⟩ = some (.int .i64 N) ∧ W.cell? ⟨w.heap.size, 1, none⟩ = some (.slice A K c) ∧ W.cell? ⟨w.heap.size + 1, 0, none⟩ = some (.int .i64 f) ∧ W.cell? ⟨w.heap.size + 1, 1, none⟩ = some (.int .i64 t) ∧ W.cell? ⟨w.heap.size + 1, 2, none⟩ = some (.int .i64 m))
    (first | assumption | exact BOTH.out _ (Below.refl _ _).drew | exact BOTH.out _ (hb1.mono LE.out) | exact BOTH.out _ (hb2.mono LE.out) | exact BOTH.out _ (Below.alloc (And.left (by assumption)) (Nat.le_trans LE.out (Below.size (And.left (by assumption)))) _) | exact BOTH.out _ (((hb2.mono LE.out).setCell (p := ⟨w.heap.size + 1 + 1, 0, none⟩) (Nat.le_refl _) _).setCell (p := ⟨w.heap.size + 1 + 1, 1, none⟩) (Nat.le_refl _) _))
    (first
      | (refine step_append_bnds rfl _ _ (by rfl) w0.heap.size _ K bs (by rfl) o1 _ 1 1 [(f, t, m)] (by rfl) rfl (bnd_row q1) (by omega) (Below.size hb1) ?_; intro v2 w2' o2 g2; have hb2 := keep_grown hb1 g2 o1; obtain ⟨g6, c6, rfl⟩ := ownsRow_succ o2; have O2 := Lib.hid o2; have Z := (R2.out.step hb2).two; obtain ⟨z0, z1, z2, z3⟩ := Z; clear o2 g2)
      | (refine step_append_bnds rfl _ _ (by rfl) w0.heap.size _ 0 [] (by rfl) ((own_e w0.drew w0.heap.size (Nat.le_refl _)).alloc (.cells #[.int .i64 f, .int .i64 t, .int .i64 m] 30)) A K c bs (by rfl) HK.out (HR.out.deep (by (repeat (first | exact Below.refl _ _ | refine keep_alloc ?_ _ | refine Below.drew ?_)))) (by omega) (Below.size (show Below w0.heap.size w0 _ from (by (repeat (first | exact Below.refl _ _ | refine keep_alloc ?_ _ | refine Below.drew ?_))))) ?_; intro v1 w1' o1 g1; rw [Nat.zero_add, List.nil_append] at o1; have bX : Below w0.heap.size w0 ((w0.drew.alloc (.cells #[] 30)).alloc (.cells #[.int .i64 f, .int .i64 t, .int .i64 m] 30)) := (by (repeat (first | exact Below.refl _ _ | refine keep_alloc ?_ _ | refine Below.drew ?_))); have hb1 := keep_grown bX g1 ((own_e w0.drew w0.heap.size (Nat.le_refl _)).alloc (.cells #[.int .i64 f, .int .i64 t, .int .i64 m] 30)); clear bX; have q1 := (row_e2 w0.drew #[.int .i64 f, .int .i64 t, .int .i64 m]).grown g1 (by simp [Value.ownBlock]))
      | (refine step_append_bnds rfl _ _ (by rfl) w0.heap.size _ 0 [] (by rfl) (own_e2 w0.drew w0.heap.size (Nat.le_refl _) #[.int .i64 f, .int .i64 t, .int .i64 m]) A K c bs (by rfl) HK.out (HR.out.deep (by (repeat (first | exact Below.refl _ _ | refine keep_alloc ?_ _ | refine Below.drew ?_)))) (by omega) (Below.size (show Below w0.heap.size w0 _ from (by (repeat (first | exact Below.refl _ _ | refine keep_alloc ?_ _ | refine Below.drew ?_))))) ?_; intro v1 w1' o1 g1; rw [Nat.zero_add, List.nil_append] at o1; have bX : Below w0.heap.size w0 ((w0.drew.alloc (.cells #[.int .i64 f, .int .i64 t, .int .i64 m] 30)).alloc (.cells #[] 30)) := (by (repeat (first | exact Below.refl _ _ | refine keep_alloc ?_ _ | refine Below.drew ?_))); have hb1 := keep_grown bX g1 (own_e2 w0.drew w0.heap.size (Nat.le_refl _) #[.int .i64 f, .int .i64 t, .int .i64 m]); clear bX; have q1 := ((Row.made w0.drew 30 #[.int .i64 f, .int .i64 t, .int .i64 m]).later (.cells #[] 30)).grown g1 (by simp [Value.ownBlock]))
      | (refine step_append_bnds rfl _ _ (by rfl) w0.heap.size _ 0 [] (by rfl) (own_e w0.drew w0.heap.size (Nat.le_refl _)) A K c bs (by rfl) HK.out (HR.out.deep (by (repeat (first | exact Below.refl _ _ | refine keep_alloc ?_ _ | refine Below.drew ?_)))) (by omega) (Below.size (show Below w0.heap.size w0 _ from (by (repeat (first | exact Below.refl _ _ | refine keep_alloc ?_ _ | refine Below.drew ?_))))) ?_; intro v1 w1' o1 g1; rw [Nat.zero_add, List.nil_append] at o1; have bX : Below w0.heap.size w0 (w0.drew.alloc (.cells #[] 30)) := (by (repeat (first | exact Below.refl _ _ | refine keep_alloc ?_ _ | refine Below.drew ?_))); have hb1 := keep_grown bX g1 (own_e w0.drew w0.heap.size (Nat.le_refl _)); clear bX)
      | (refine step_append_bnds rfl _ _ (by rfl) w0.heap.size _ K bs (by rfl) (o1.alloc _) _ 1 1 [(f, t, m)] (by rfl) rfl (bnd_row (Row.made _ _ _)) (by omega) (Below.size (keep_alloc hb1 _)) ?_; intro v2 w2' o2 g2; have hb2 := keep_grown (keep_alloc hb1 _) g2 (o1.alloc _); obtain ⟨g6, c6, rfl⟩ := ownsRow_succ o2; have O2 := Lib.hid o2; have Z := (R2.out.step hb2).two; obtain ⟨z0, z1, z2, z3⟩ := Z; clear o2 g2))
  all_goals
    go_wp2
    have rz := R2.out.step hb2
    refine bodyPost_ret (res_btw rfl rfl (put2 rz _ _)) rfl ?_
    have q3 := O2.out.kept (grown_at w2' (w.heap.size + 1 + 1) 0 (.int .i64 N)) (.inr (fun e => own_row3 O2.out rz (by decide) e.symm))
    have q4 := q3.kept (grown_at _ (w.heap.size + 1 + 1) 1 (.slice (some ⟨g6, 0, none⟩) (K + 1) c6)) (.inr (fun e => own_row3 q3 (rz.put0 _) (by decide) e.symm))
    exact ⟨some ⟨g6, 0, none⟩, c6, rfl, own_rds (by simp [HK.out]) q4, ((below_step B0.out hb2).setCell (p := ⟨w.heap.size + 1 + 1, 0, none⟩) (by show w.heap.size ≤ w.heap.size + 1 + 1; omega) _).setCell (p := ⟨w.heap.size + 1 + 1, 1, none⟩) (by show w.heap.size ≤ w.heap.size + 1 + 1; omega) _⟩
end Go.Proofs.Ytkeimfkaoianmaa
