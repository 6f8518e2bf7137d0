/- append of elements that lie in memory to a row of the call's own: for elements of any kind. -/
import Derived.Test.YtghcffpcblficaaLv
import Derived.Laws.AppendOwnNone
namespace Go.Proofs.Ytghcffpcblficaa
open Go.RowKit Go.Lib

def flG {α : Type} (enc : α → List Value) (l : List α) : List Value := l.flatMap enc
section
variable {α : Type} {enc : α → List Value} {k : Nat}
theorem flG_cons (x : α) (l : List α) : flG enc (x :: l) = enc x ++ flG enc l := rfl
theorem flG_app (a b : List α) : flG enc (a ++ b) = flG enc a ++ flG enc b := by simp [flG]
theorem flG_one (x : α) : flG enc [x] = enc x := by simp [flG]
theorem flG_len (h : ∀ x, (enc x).length = k) : ∀ l : List α, (flG enc l).length = l.length * k
  | [] => by simp [flG]
  | x :: l => by rw [flG_cons, List.length_append, flG_len h l, h, List.length_cons, Nat.add_mul, Nat.one_mul, Nat.add_comm]
theorem flG_at (h : ∀ x, (enc x).length = k) : ∀ (l : List α) (i j : Nat) (x : α), l[i]? = some x → j < k → (flG enc l)[i * k + j]? = (enc x)[j]?
  | [], i, j, x, e, _ => by simp at e
  | y :: l, 0, j, x, e, hj => by
    cases e
    rw [flG_cons, Nat.zero_mul, Nat.zero_add, List.getElem?_append_left (by rw [h]; exact hj)]
  | y :: l, i + 1, j, x, e, hj => by
    have := flG_at h l i j x (by simpa using e) hj
    rw [flG_cons, List.getElem?_append_right (by rw [h, Nat.add_mul]; omega), ← this]
    congr 1
    rw [h, Nat.add_mul]
    omega
theorem flG_set (h : ∀ x, (enc x).length = k) : ∀ (l : List α) (i j : Nat) (x y : α) (v : Value), l[i]? = some x → j < k → enc y = (enc x).set j v → (flG enc l).set (i * k + j) v = flG enc (l.set i y)
  | [], i, j, x, y, v, e, _, _ => by simp at e
  | z :: l, 0, j, x, y, v, e, hj, he => by
    cases e
    rw [flG_cons, Nat.zero_mul, Nat.zero_add, List.set_append_left _ _ (by rw [h]; exact hj), ← he]
    rfl
  | z :: l, i + 1, j, x, y, v, e, hj, he => by
    have := flG_set h l i j x y v (by simpa using e) hj he
    rw [flG_cons, List.set_append_right _ _ (by rw [h, Nat.add_mul]; omega), show (i + 1) * k + j - (enc z).length = i * k + j by rw [h, Nat.add_mul]; omega, this]
    rfl
/-- A row of the call's own, as elements of k cells. -/
theorem own_cells {w : World} {B n cap : Nat} {e : TypeId} {A : Option Addr} {l : List α} (hk : ∀ x, (enc x).length = k) (hn : n = l.length) (h : w.ownsRow B e k (.slice A n cap) n (flG enc l)) : Cells w w.heap.size A k (l.map fun x => (enc x).toArray) := by
  rcases h.2 with ⟨_, h0⟩ | ⟨g, cap', cur, hv, hB, hg, hcap, _, _, ht⟩
  · left
    rw [List.map_eq_nil_iff]
    exact List.eq_nil_of_length_eq_zero (by omega)
  · right
    cases hv
    refine ⟨g, 0, rfl, ?_, fun i C hC j v hv => ?_⟩
    · rcases Nat.lt_or_ge g w.heap.size with q | q
      · exact q
      · rw [Array.getElem?_eq_none q] at hg; cases hg
    · rw [List.getElem?_map] at hC
      cases hx : l[i]? with
      | none => rw [hx] at hC; cases hC
      | some x =>
        rw [hx] at hC
        cases hC
        have hi : i < l.length := (List.getElem?_eq_some_iff.1 hx).1
        have hv' : (enc x)[j]? = some v := by simpa using hv
        have hj : j < k := by rw [← hk x]; exact (List.getElem?_eq_some_iff.1 hv').1
        have hlt : i * k + j < n * k := by
          have : (i + 1) * k ≤ n * k := Nat.mul_le_mul_right k (by omega)
          rw [Nat.add_mul, Nat.one_mul] at this
          omega
        rw [Nat.zero_add, h.cellAt (i * k + j) hlt, flG_at hk l i j x hx hj, hv']
end
theorem run_append_none (w : World) (base : Nat) (t ty e : TypeId) (i : TypeInfo) (size c : Nat) (ht : Try.prog.underlying t = some (.slice e)) (hi : Try.prog.info? e = some i)
    (v : Value) (n : Nat) (xs : List Value) (hown : w.ownsRow base e size v n xs) :
    (Builtin.append_ #[t, t] ty #[v, .slice none 0 c]).run Try.prog w = .ok v w := by
  rcases hown.2 with ⟨rfl, rfl⟩ | ⟨g, cap, cur, rfl, _, _, hnc, _⟩
  · simp [Builtin.append_, run_underlying ht, sizeOf, typeInfo, hi, Builtin.lenOf, Builtin.firstCells]
  · simp [Builtin.append_, run_underlying ht, sizeOf, typeInfo, hi, Builtin.lenOf, Builtin.firstCells, hnc, storeCells]
section
variable {α : Type} {enc : α → List Value} {k bytes : Nat} {t e : TypeId} {z : Value}
theorem wp_append_G {w : World} {o : Oper} {a : Act} {K : Act → World → Prop} {Q : Exit → Act → World → Prop} (hk : ∀ x, (enc x).length = k) (ht : Try.prog.underlying t = some (.slice e))
    (hinf : (Try.prog.info? e).map (fun i => (i.zero, i.size, i.bytes)) = some (some z, k, bytes)) (hz : z.cells.size = k) (h0 : 0 < k) (hb : bytes ≤ 1000) (s x : Operand)
    (ho : o.op = .call { callee := .builtin .append, args := #[s, x], argTypes := #[t, t] })
    (base : Nat) (v : Value) (n : Nat) (l : List α) (hs : a.eval s = v) (hown : w.ownsRow base e k v n (flG enc l))
    (A : Option Addr) (m c : Nat) (news : List α) (hx : a.eval x = .slice A m c) (hm : m = news.length) (h1 : ∀ y ∈ news, ∀ u ∈ enc y, u.oneCell' = true) (hN : Cells w w.heap.size A k (news.map fun x => (enc x).toArray)) (hnm : n + m ≤ 1000) (hbase : base ≤ w.heap.size)
    (h : ∀ v' w', w'.ownsRow base e k v' (n + m) (flG enc (l ++ news)) → w.grownBy w' v.ownBlock → K (a.put o.dst v') w') : o.wp Try.prog a w K Q := by
  obtain ⟨i0, hi, hz0, hz1, hz2⟩ := info_parts hinf
  match A, hx, hN with
  | none, hx, hN =>
    have hnil : news = [] := by
      rcases hN with h | ⟨b, o, h, _⟩
      · exact List.map_eq_nil_iff.1 h
      · cases h
    subst hnil
    obtain rfl : m = 0 := hm
    have hr := run_append_none w base t o.type e i0 k c ht hi v n _ hown
    unfold Oper.wp
    simp [execOp, ho, resolve, invoke, builtin, hs, hx, hr, Result.andThen]
    exact h v w (by simpa using hown) ⟨rfl, rfl, rfl, Nat.le_refl _, fun _ _ _ => rfl⟩
  | some ad, hx, hN =>
    refine wp_append_own _ s x t ho base e i0 _ k bytes ht hi hz0 hz1 hz2 hz h0 v n _ hs hown ad m c (flG enc news) hx (by rw [flG_len hk, hm]) ?_ ?_ (by unfold maxLen; omega) ?_ hbase ?_
    · intro j u hj
      have hlt : j < news.length * k := by
        rw [← flG_len hk]
        exact (List.getElem?_eq_some_iff.1 hj).1
      have hik : j / k < news.length := Nat.div_lt_of_lt_mul (by rw [Nat.mul_comm]; exact hlt)
      obtain ⟨r, hr⟩ : ∃ r, news[j / k]? = some r := at_lt hik
      have hmod := Nat.mod_lt j h0
      have ej : j / k * k + j % k = j := Nat.div_add_mod' j k
      have hf := flG_at hk news (j / k) (j % k) r hr hmod
      rw [ej, hj] at hf
      obtain ⟨b, o, hA, _, cc⟩ := hN.get (i := j / k) (C := (enc r).toArray) (by rw [List.getElem?_map, hr]; rfl)
      cases hA
      have e : (⟨b, o, none⟩ : Addr).add j = ⟨b, o + j, none⟩ := by unfold Addr.add; split <;> simp_all
      rw [e]
      have := cc (j % k) u (by simpa using hf.symm)
      rwa [Nat.add_assoc, ej] at this
    · intro u hu
      unfold flG at hu
      rw [List.mem_flatMap] at hu
      obtain ⟨r, hr, hu⟩ := hu
      exact h1 r hr u hu
    · exact Nat.le_trans (Nat.mul_le_mul hnm hb) (by decide)
    · intro v' w' h1 h2 _
      exact h v' w' (by rw [flG_app]; exact h1) h2
theorem step_append_G {w : World} {ops : Array Oper} {o : Oper} {a : Act} {K : Act → World → Prop} {Q : Exit → Act → World → Prop} {E : Prop} (hk : ∀ x, (enc x).length = k) (ht : Try.prog.underlying t = some (.slice e))
    (hinf : (Try.prog.info? e).map (fun i => (i.zero, i.size, i.bytes)) = some (some z, k, bytes)) (hz : z.cells.size = k) (h0 : 0 < k) (hb : bytes ≤ 1000) (hgd : o.guard = none) (s x : Operand)
    (ho : o.op = .call { callee := .builtin .append, args := #[s, x], argTypes := #[t, t] })
    (base : Nat) (v : Value) (n : Nat) (l : List α) (hs : a.eval s = v) (hown : w.ownsRow base e k v n (flG enc l))
    (A : Option Addr) (m c : Nat) (news : List α) (hx : a.eval x = .slice A m c) (hm : m = news.length) (h1 : ∀ y ∈ news, ∀ u ∈ enc y, u.oneCell' = true) (hN : Cells w w.heap.size A k (news.map fun x => (enc x).toArray)) (hnm : n + m ≤ 1000) (hbase : base ≤ w.heap.size)
    (h : ∀ v' w', w'.ownsRow base e k v' (n + m) (flG enc (l ++ news)) → w.grownBy w' v.ownBlock → K (a.put o.dst v') w') :
    if Region.wanted o (yielded ops a.tmps) = true then Oper.wp Try.prog o a w K Q else E := by
  have hw : Region.wanted o (yielded ops a.tmps) = true := by simp [Region.wanted, hgd]
  rw [if_pos hw]
  exact wp_append_G hk ht hinf hz h0 hb s x ho base v n l hs hown A m c news hx hm h1 hN hnm hbase h
theorem wpList_append_G {w : World} {ops : Array Oper} {rest : List Oper} {o : Oper} {a : Act} {Q : Exit → Act → World → Prop} (hk : ∀ x, (enc x).length = k) (ht : Try.prog.underlying t = some (.slice e))
    (hinf : (Try.prog.info? e).map (fun i => (i.zero, i.size, i.bytes)) = some (some z, k, bytes)) (hz : z.cells.size = k) (h0 : 0 < k) (hb : bytes ≤ 1000) (hgd : o.guard = none) (s x : Operand)
    (ho : o.op = .call { callee := .builtin .append, args := #[s, x], argTypes := #[t, t] })
    (base : Nat) (v : Value) (n : Nat) (l : List α) (hs : a.eval s = v) (hown : w.ownsRow base e k v n (flG enc l))
    (A : Option Addr) (m c : Nat) (news : List α) (hx : a.eval x = .slice A m c) (hm : m = news.length) (h1 : ∀ y ∈ news, ∀ u ∈ enc y, u.oneCell' = true) (hN : Cells w w.heap.size A k (news.map fun x => (enc x).toArray)) (hnm : n + m ≤ 1000) (hbase : base ≤ w.heap.size)
    (h : ∀ v' w', w'.ownsRow base e k v' (n + m) (flG enc (l ++ news)) → w.grownBy w' v.ownBlock → wpList Try.prog ops Q rest (a.put o.dst v') w') : wpList Try.prog ops Q (o :: rest) a w :=
  wpList_plain hgd fun _ hK => wp_append_G hk ht hinf hz h0 hb s x ho base v n l hs hown A m c news hx hm h1 hN hnm hbase fun v' w' h2 h3 => hK _ _ (h v' w' h2 h3)
theorem own_e (w : World) (B : Nat) (hB : B ≤ w.heap.size) : (w.alloc (.cells #[] e)).ownsRow B e k (.slice (some ⟨w.heap.size, 0, none⟩) 0 0) 0 (flG enc []) :=
  World.ownsRow_lit w #[] 0 hB (by decide) (by simp)
end
def i1 (x : Int) : List Value := [.int .i64 x]
theorem i1_len (x : Int) : (i1 x).length = 1 := rfl
theorem i1_one (x : Int) : ∀ u ∈ i1 x, u.oneCell' = true := by
  intro u hu
  simp only [i1, List.mem_cons, List.not_mem_nil, or_false] at hu
  subst hu; rfl
theorem iV_G (l : List Int) : iV l = flG i1 l := by
  induction l with
  | nil => rfl
  | cons x l ih => rw [flG_cons, ← ih]; rfl
theorem nums_cells {W : World} {B : Nat} {A : Option Addr} {l : List Int} (h : Nums W B A l) : Cells W B A 1 (l.map fun x => (i1 x).toArray) := by
  rcases h with rfl | ⟨b, o, hA, hB, hc⟩
  · exact .inl rfl
  · refine .inr ⟨b, o, hA, hB, fun i C hC j v hv => ?_⟩
    rw [List.getElem?_map] at hC
    cases hx : l[i]? with
    | none => rw [hx] at hC; cases hC
    | some x =>
      rw [hx] at hC
      cases hC
      match j, hv with
      | 0, hv =>
        cases hv
        have := hc i x hx
        rwa [show o + i * 1 + 0 = o + i by omega]
end Go.Proofs.Ytghcffpcblficaa
