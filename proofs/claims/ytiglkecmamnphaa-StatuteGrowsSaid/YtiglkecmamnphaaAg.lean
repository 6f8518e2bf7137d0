/- append of elements that lie in memory to a row of the call's own: for elements of any kind. -/
import Derived.Test.YtiglkecmamnphaaMd
import Derived.Laws.AppendOwnNone
import Derived.RangeFuncBox
namespace Go.Proofs.Ytiglkecmamnphaa
open Go.RowKit Go.Sort Go.Lib

theorem run_append_none (w : World) (base : Nat) (t ty e : TypeId) (i : TypeInfo) (size c : Nat) (ht : Try.prog.underlying t = some (.slice e)) (hi : Try.prog.info? e = some i)
    (v : Value) (n : Nat) (xs : List Value) (hown : w.ownsRow base e size v n xs) :
    (Builtin.append_ #[t, t] ty #[v, .slice none 0 c]).run Try.prog w = .ok v w := by
  rcases hown.2 with ⟨rfl, rfl⟩ | ⟨g, cap, cur, rfl, _, _, hnc, _⟩
  · simp [Builtin.append_, run_underlying ht, sizeOf, typeInfo, hi, Builtin.lenOf, Builtin.firstCells]
  · simp [Builtin.append_, run_underlying ht, sizeOf, typeInfo, hi, Builtin.lenOf, Builtin.firstCells, hnc, storeCells]
section
variable {α : Type} {enc : α → List Value} {k bytes : Nat} {t e : TypeId} {z : Value}
theorem wp_append_G {w : World} {o : Oper} {a : Act} {K : Act → World → Prop} {Q : Exit → Act → World → Prop} (hk : ∀ x, (enc x).length = k) (ht : Try.prog.underlying t = some (.slice e))
    (hinf : (Try.prog.info? e).map (fun i => (i.zero, i.size, i.bytes)) = some (some z, k, bytes)) (hz : z.cells.size = k) (h0 : 0 < k) (hb : bytes ≤ 1000) (s x : Operand)
    (ho : o.op = .call { callee := .builtin .append, args := #[s, x], argTypes := #[t, t] })
    (base : Nat) (v : Value) (n : Nat) (l : List α) (hs : a.eval s = v) (hown : w.ownsRow base e k v n (flG enc l))
    (A : Option Addr) (m c : Nat) (news : List α) (hx : a.eval x = .slice A m c) (hm : m = news.length) (h1 : ∀ y ∈ news, ∀ u ∈ enc y, u.oneCell' = true) (hN : Cells w w.heap.size A k (news.map fun x => (enc x).toArray)) (hnm : n + m ≤ 1000) (hbase : base ≤ w.heap.size)
    (h : ∀ v' w', w'.ownsRow base e k v' (n + m) (flG enc (l ++ news)) → w.grownBy w' v.ownBlock → K (a.put o.dst v') w') : o.wp Try.prog a w K Q := by
  obtain ⟨i0, hi, hz0, hz1, hz2⟩ := info_parts hinf
  match A, hx, hN with
  | none, hx, hN =>
    have hnil : news = [] := by
      rcases hN with h | ⟨b, o, h, _⟩
      · exact List.map_eq_nil_iff.1 h
      · cases h
    subst hnil
    obtain rfl : m = 0 := hm
    have hr := run_append_none w base t o.type e i0 k c ht hi v n _ hown
    unfold Oper.wp
    simp [execOp, ho, resolve, invoke, builtin, hs, hx, hr, Result.andThen]
    exact h v w (by simpa using hown) ⟨rfl, rfl, rfl, Nat.le_refl _, fun _ _ _ => rfl⟩
  | some ad, hx, hN =>
    refine wp_append_own _ s x t ho base e i0 _ k bytes ht hi hz0 hz1 hz2 hz h0 v n _ hs hown ad m c (flG enc news) hx (by rw [flG_len hk, hm]) ?_ ?_ (by unfold maxLen; omega) ?_ hbase ?_
    · intro j u hj
      have hlt : j < news.length * k := by
        rw [← flG_len hk]
        exact (List.getElem?_eq_some_iff.1 hj).1
      have hik : j / k < news.length := Nat.div_lt_of_lt_mul (by rw [Nat.mul_comm]; exact hlt)
      obtain ⟨r, hr⟩ : ∃ r, news[j / k]? = some r := at_lt hik
      have hmod := Nat.mod_lt j h0
      have ej : j / k * k + j % k = j := Nat.div_add_mod' j k
      have hf := flG_at hk news (j / k) (j % k) r hr hmod
      rw [ej, hj] at hf
      obtain ⟨b, o, hA, _, cc⟩ := hN.get (i := j / k) (C := (enc r).toArray) (by rw [List.getElem?_map, hr]; rfl)
      cases hA
      have e : (⟨b, o, none⟩ : Addr).add j = ⟨b, o + j, none⟩ := by unfold Addr.add; split <;> simp_all
      rw [e]
      have := cc (j % k) u (by simpa using hf.symm)
      rwa [Nat.add_assoc, ej] at this
    · intro u hu
      unfold flG at hu
      rw [List.mem_flatMap] at hu
      obtain ⟨r, hr, hu⟩ := hu
      exact h1 r hr u hu
    · exact Nat.le_trans (Nat.mul_le_mul hnm hb) (by decide)
    · intro v' w' h1 h2 _
      exact h v' w' (by rw [flG_app]; exact h1) h2
theorem step_append_G {w : World} {ops : Array Oper} {o : Oper} {a : Act} {K : Act → World → Prop} {Q : Exit → Act → World → Prop} {E : Prop} (hk : ∀ x, (enc x).length = k) (ht : Try.prog.underlying t = some (.slice e))
    (hinf : (Try.prog.info? e).map (fun i => (i.zero, i.size, i.bytes)) = some (some z, k, bytes)) (hz : z.cells.size = k) (h0 : 0 < k) (hb : bytes ≤ 1000) (hgd : o.guard = none) (s x : Operand)
    (ho : o.op = .call { callee := .builtin .append, args := #[s, x], argTypes := #[t, t] })
    (base : Nat) (v : Value) (n : Nat) (l : List α) (hs : a.eval s = v) (hown : w.ownsRow base e k v n (flG enc l))
    (A : Option Addr) (m c : Nat) (news : List α) (hx : a.eval x = .slice A m c) (hm : m = news.length) (h1 : ∀ y ∈ news, ∀ u ∈ enc y, u.oneCell' = true) (hN : Cells w w.heap.size A k (news.map fun x => (enc x).toArray)) (hnm : n + m ≤ 1000) (hbase : base ≤ w.heap.size)
    (h : ∀ v' w', w'.ownsRow base e k v' (n + m) (flG enc (l ++ news)) → w.grownBy w' v.ownBlock → K (a.put o.dst v') w') :
    if Region.wanted o (yielded ops a.tmps) = true then Oper.wp Try.prog o a w K Q else E := by
  have hw : Region.wanted o (yielded ops a.tmps) = true := by simp [Region.wanted, hgd]
  rw [if_pos hw]
  exact wp_append_G hk ht hinf hz h0 hb s x ho base v n l hs hown A m c news hx hm h1 hN hnm hbase h
theorem wpList_append_G {w : World} {ops : Array Oper} {rest : List Oper} {o : Oper} {a : Act} {Q : Exit → Act → World → Prop} (hk : ∀ x, (enc x).length = k) (ht : Try.prog.underlying t = some (.slice e))
    (hinf : (Try.prog.info? e).map (fun i => (i.zero, i.size, i.bytes)) = some (some z, k, bytes)) (hz : z.cells.size = k) (h0 : 0 < k) (hb : bytes ≤ 1000) (hgd : o.guard = none) (s x : Operand)
    (ho : o.op = .call { callee := .builtin .append, args := #[s, x], argTypes := #[t, t] })
    (base : Nat) (v : Value) (n : Nat) (l : List α) (hs : a.eval s = v) (hown : w.ownsRow base e k v n (flG enc l))
    (A : Option Addr) (m c : Nat) (news : List α) (hx : a.eval x = .slice A m c) (hm : m = news.length) (h1 : ∀ y ∈ news, ∀ u ∈ enc y, u.oneCell' = true) (hN : Cells w w.heap.size A k (news.map fun x => (enc x).toArray)) (hnm : n + m ≤ 1000) (hbase : base ≤ w.heap.size)
    (h : ∀ v' w', w'.ownsRow base e k v' (n + m) (flG enc (l ++ news)) → w.grownBy w' v.ownBlock → wpList Try.prog ops Q rest (a.put o.dst v') w') : wpList Try.prog ops Q (o :: rest) a w :=
  wpList_plain hgd fun _ hK => wp_append_G hk ht hinf hz h0 hb s x ho base v n l hs hown A m c news hx hm h1 hN hnm hbase fun v' w' h2 h3 => hK _ _ (h v' w' h2 h3)
theorem own_e (w : World) (B : Nat) (hB : B ≤ w.heap.size) : (w.alloc (.cells #[] e)).ownsRow B e k (.slice (some ⟨w.heap.size, 0, none⟩) 0 0) 0 (flG enc []) :=
  World.ownsRow_lit w #[] 0 hB (by decide) (by simp)
end
def fdL (f : Fd) : List Value := (fdC f).toList
theorem fdL_len (f : Fd) : (fdL f).length = 4 := rfl
theorem flatF_G (l : List Fd) : flatF l = flG fdL l := rfl
theorem fds_cells {W : World} {A : Option Addr} {l : List Fd} (h : FdsC W A l) : Cells W W.heap.size A 4 (l.map fun x => (fdL x).toArray) := by
  cases l with
  | nil => exact .inl rfl
  | cons f l =>
    obtain ⟨b, o, hA, hB, _⟩ := h 0 f rfl
    refine .inr ⟨b, o, hA, hB, fun i C hC j v hv => ?_⟩
    rw [List.getElem?_map] at hC
    cases hx : (f :: l)[i]? with
    | none => rw [hx] at hC; cases hC
    | some x =>
      rw [hx] at hC
      cases hC
      obtain ⟨b', o', hA', _, h0, h1, h2, h3⟩ := h i x hx
      rw [hA] at hA'
      cases hA'
      match j, hv with
      | 0, hv => cases hv; exact h0
      | 1, hv => cases hv; exact h1
      | 2, hv => cases hv; exact h2
      | 3, hv => cases hv; exact h3
/-- The findings from i on. -/
theorem FdsC.drop {W : World} {b o : Nat} {l : List Fd} (h : FdsC W (some ⟨b, o, none⟩) l) (i : Nat) : FdsC W (some ⟨b, o + i * 4, none⟩) (l.drop i) := fun j x hx => by
  rw [List.getElem?_drop] at hx
  obtain ⟨b', o', hA, hB, h0, h1, h2, h3⟩ := h (i + j) x hx
  cases hA
  refine ⟨b, _, rfl, hB, ?_, ?_, ?_, ?_⟩
  · rw [show o + i * 4 + j * 4 = o + (i + j) * 4 by omega]; exact h0
  · rw [show o + i * 4 + j * 4 = o + (i + j) * 4 by omega]; exact h1
  · rw [show o + i * 4 + j * 4 = o + (i + j) * 4 by omega]; exact h2
  · rw [show o + i * 4 + j * 4 = o + (i + j) * 4 by omega]; exact h3
/-- A proof that Decide gave, in memory. -/
structure Prf (b : Bk) (q : Qn) (l : List Fd) (g n c : Nat) (W : World) : Prop where
  len : l.length = n
  slim : Slim b q q.says l
  own : W.ownsRow 0 63 4 (.slice (some ⟨g, 0, none⟩) n c) n (flatF l)
theorem Prf.step {b : Bk} {q : Qn} {l : List Fd} {g n c : Nat} {W X : World} (h : Prf b q l g n c W) (hb : Below W.heap.size W X) : Prf b q l g n c X := ⟨h.len, h.slim, own_over h.own hb⟩
theorem Prf.fds {b : Bk} {q : Qn} {l : List Fd} {g n c : Nat} {W : World} (h : Prf b q l g n c W) : FdsC W (some ⟨g, 0, none⟩) l := own_fds h.len.symm h.own
theorem Prf.cap {b : Bk} {q : Qn} {l : List Fd} {g n c : Nat} {W : World} (h : Prf b q l g n c W) : n ≤ c := own_cap h.own
theorem decide_prf (b : Bk) (q : Qn) (hv : validB b = true) (hq : asksB q = true) (cv rv fv : Value) (W : World) (h : BkV W W.heap.size cv rv fv b) :
    Calls Try.prog 12 #[.agg #[cv, rv, fv], .agg (qnC q)] W fun e w' => ∃ g n c l, e = .returned (.tuple #[.bool (soB b q q.says), .slice (some ⟨g, 0, none⟩) n c, .int .i64 0]) ∧ Prf b q l g n c w' ∧ (0 < n ∧ n ≤ 20) ∧ Below W.heap.size W w' :=
  (decide_yes b q cv rv fv W h (bki_of hv) hv hq).mono fun e w' ⟨A, c, l, he, hm, ho, hb⟩ => by
    have hs := says_of hq
    obtain ⟨k, f, h1, _, _, h20⟩ := slim_ends (low_of hv) hs.1 hs.2 hm
    rw [h1] at ho he h20
    obtain ⟨g, cap, hg⟩ := ownsRow_succ ho
    cases hg
    exact ⟨g, k + 1, c, l, he, ⟨h1, hm, own_less ho (Nat.zero_le _)⟩, ⟨by omega, h20⟩, hb⟩
end Go.Proofs.Ytiglkecmamnphaa
