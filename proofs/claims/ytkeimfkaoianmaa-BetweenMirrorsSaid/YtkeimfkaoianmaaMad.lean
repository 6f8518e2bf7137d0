/- Made: its plain facts, its memory. -/
import Derived.Test.YtkeimfkaoianmaaHid
import Derived.StillTailTactics
namespace Go.Proofs.Ytkeimfkaoianmaa
open Go.RowKit

/-- The readings' cells. -/
def enc3 (r : Rd) : List Value := [.int .i64 r.1, .int .i64 r.2.1, .int .i64 r.2.2]
def flat3 (rs : List Rd) : List Value := rs.flatMap enc3
theorem flat3_len (rs : List Rd) : (flat3 rs).length = rs.length * 3 := by
  induction rs with
  | nil => rfl
  | cons x l ih => show (enc3 x ++ flat3 l).length = _; rw [List.length_append, ih]; simp [enc3]; omega
theorem flat3_app (a b : List Rd) : flat3 (a ++ b) = flat3 a ++ flat3 b := by simp [flat3]
theorem flat3_at : ∀ (rs : List Rd) (i : Nat) (r : Rd), rs[i]? = some r → (flat3 rs)[i * 3]? = some (.int .i64 r.1) ∧ (flat3 rs)[i * 3 + 1]? = some (.int .i64 r.2.1) ∧ (flat3 rs)[i * 3 + 2]? = some (.int .i64 r.2.2)
  | [], i, r, h => by simp at h
  | x :: l, 0, r, h => by
    cases h
    exact ⟨rfl, rfl, rfl⟩
  | x :: l, i + 1, r, h => by
    have := flat3_at l i r (by simpa using h)
    have e : flat3 (x :: l) = .int .i64 x.1 :: .int .i64 x.2.1 :: .int .i64 x.2.2 :: flat3 l := rfl
    rw [e, show (i + 1) * 3 = i * 3 + 1 + 1 + 1 by omega, show i * 3 + 1 + 1 + 1 + 1 = i * 3 + 1 + 1 + 1 + 1 from rfl]
    exact this
theorem own_rds {w : World} {B n cap : Nat} {e : TypeId} {A : Option Addr} {rs : List Rd} (hn : n = rs.length) (h : w.ownsRow B e 3 (.slice A n cap) n (flat3 rs)) : Rds w w.heap.size A rs := by
  rcases h.2 with ⟨_, h1⟩ | ⟨g, c, cur, hv, hB, hg, _, _, hs, ht⟩
  · exact .inl (List.eq_nil_of_length_eq_zero (by omega))
  · have hlt : g < w.heap.size := by
      rcases Nat.lt_or_ge g w.heap.size with k | k
      · exact k
      · rw [Array.getElem?_eq_none k] at hg; cases hg
    cases hv
    refine .inr ⟨g, 0, rfl, hlt, fun i r hr => ?_⟩
    obtain ⟨c0, c1, c2⟩ := flat3_at rs i r hr
    have hi : i < rs.length := (List.getElem?_eq_some_iff.1 hr).1
    have hc : ∀ (j : Nat) (v : Value), j < n * 3 → (flat3 rs)[j]? = some v → w.cell? ⟨g, j, none⟩ = some v := by
      intro j v hj hv
      rw [← ht, List.getElem?_take_of_lt hj, Array.getElem?_toList] at hv
      rw [cell_of_row w g j cur e (0, 0) hg]; exact hv
    rw [Nat.zero_add]
    exact ⟨hc _ _ (by omega) c0, hc _ _ (by omega) c1, hc _ _ (by omega) c2⟩

/-- A bound that three integers determine; bounds that integers determine. -/
def mkB (h : List Int) (y : Bn) : Bn := (pk y.1 h.length, pk y.2.1 h.length, h.getD (pk y.2.1 h.length).toNat 0 - h.getD (pk y.1 h.length).toNat 0 + pk y.2.2 30)
def mk0 (h : List Int) (BL : List Bn) : List Bn := (BL.take 16).map (mkB h)
def lowAt (bs : List Bn) (k : Nat) (d : Int) : List Bn := bs.set k ((bs.getD k (0, 0, 0)).1, (bs.getD k (0, 0, 0)).2.1, (bs.getD k (0, 0, 0)).2.2 - 10 - d)
def lowB (M : Int) (bs : List Bn) : List Bn := if missB M = true ∧ bs ≠ [] then lowAt bs (pk (M.tdiv 3) bs.length).toNat (pk (M.tdiv 60) 60) else bs
def madeL (N : Int) (H : List Int) (BL : List Bn) (M : Int) : List Bn := lowB M (mk0 (hidL N H) BL)
theorem mk0_len (h : List Int) (BL : List Bn) : (mk0 h BL).length = min 16 BL.length := by simp [mk0]
theorem lowB_len (M : Int) (bs : List Bn) : (lowB M bs).length = bs.length := by unfold lowB lowAt; split <;> simp
theorem madeL_len (N : Int) (H : List Int) (BL : List Bn) (M : Int) : (madeL N H BL M).length ≤ 16 := by unfold madeL; rw [lowB_len, mk0_len]; omega
theorem getD_bd {h : List Int} (hb : ∀ x ∈ h, -100 ≤ x ∧ x ≤ 99) (i : Nat) : -100 ≤ h.getD i 0 ∧ h.getD i 0 ≤ 99 := by
  rw [List.getD_eq_getElem?_getD]
  cases e : h[i]? with
  | none => simp
  | some x => exact hb x (List.mem_of_getElem? e)
theorem hidL_all (N : Int) (H : List Int) : ∀ x ∈ hidL N H, -100 ≤ x ∧ x ≤ 99 := fun x hx => by
  obtain ⟨i, hi⟩ := List.getElem?_of_mem hx
  exact hidL_bd hi
/-- What is true of each bound: its variables, that the hidden situation keeps it, and how great it is. -/
theorem mk0_mem {h : List Int} {BL : List Bn} (hn : 0 < h.length) (hb : ∀ x ∈ h, -100 ≤ x ∧ x ≤ 99) {c : Bn} (hc : c ∈ mk0 h BL) :
    (0 ≤ c.1 ∧ c.1 < h.length) ∧ (0 ≤ c.2.1 ∧ c.2.1 < h.length) ∧ h.getD c.2.1.toNat 0 - h.getD c.1.toNat 0 ≤ c.2.2 ∧ -199 ≤ c.2.2 ∧ c.2.2 ≤ 228 := by
  unfold mk0 at hc
  obtain ⟨y, _, rfl⟩ := List.mem_map.1 hc
  have h1 := pk_range (c := y.1) (n := h.length) (by omega)
  have h2 := pk_range (c := y.2.1) (n := h.length) (by omega)
  have h3 := pk_range (c := y.2.2) (n := 30) (by omega)
  have g1 := getD_bd hb (pk y.1 h.length).toNat
  have g2 := getD_bd hb (pk y.2.1 h.length).toNat
  unfold mkB
  dsimp only
  omega
theorem lowB_mem {n : Nat} {M : Int} {bs : List Bn} (h : ∀ c ∈ bs, (0 ≤ c.1 ∧ c.1 < n) ∧ (0 ≤ c.2.1 ∧ c.2.1 < n) ∧ -199 ≤ c.2.2 ∧ c.2.2 ≤ 228) : ∀ c ∈ lowB M bs, (0 ≤ c.1 ∧ c.1 < n) ∧ (0 ≤ c.2.1 ∧ c.2.1 < n) ∧ -268 ≤ c.2.2 ∧ c.2.2 ≤ 228 := by
  intro c hc
  unfold lowB at hc
  split at hc
  · rename_i hm
    unfold lowAt at hc
    have hd := pk_range (c := M.tdiv 60) (n := 60) (by omega)
    have hk := pk_range (c := M.tdiv 3) (n := bs.length) (by have := len_pos hm.2; omega)
    rcases List.mem_or_eq_of_mem_set hc with hc | rfl
    · have := h c hc; omega
    · have hlt : (pk (M.tdiv 3) bs.length).toNat < bs.length := by omega
      have e : bs.getD (pk (M.tdiv 3) bs.length).toNat (0, 0, 0) = bs[(pk (M.tdiv 3) bs.length).toNat] := by rw [List.getD_eq_getElem?_getD, List.getElem?_eq_getElem hlt]; rfl
      have := h _ (List.getElem_mem hlt)
      rw [← e] at this
      dsimp only
      omega
  · have := h c hc; omega
theorem madeL_mem (N : Int) (H : List Int) (BL : List Bn) (M : Int) : ∀ c ∈ madeL N H BL M, (0 ≤ c.1 ∧ c.1 < hidN N) ∧ (0 ≤ c.2.1 ∧ c.2.1 < hidN N) ∧ -268 ≤ c.2.2 ∧ c.2.2 ≤ 228 := by
  have hn := hidN_bd N
  have hl := hidL_len N H
  refine lowB_mem fun c hc => ?_
  have := mk0_mem (by omega) (hidL_all N H) hc
  rw [hl] at this
  omega
/-- The hidden situation keeps all bounds, unless one is less. -/
theorem madeL_keeps {N : Int} {H : List Int} {BL : List Bn} {M : Int} (hm : missB M = false) : ∀ c ∈ madeL N H BL M, (hidL N H).getD c.2.1.toNat 0 - (hidL N H).getD c.1.toNat 0 ≤ c.2.2 := by
  intro c hc
  unfold madeL lowB at hc
  rw [if_neg (by rw [hm]; simp)] at hc
  exact (mk0_mem (by have := hidN_bd N; rw [hidL_len]; omega) (hidL_all N H) hc).2.2.1
/-- Memory while Made runs: its boxes, the hidden situation, the bounds so far. -/
structure Mk (w : World) (X : Array Value) (gb gh hcap : Nat) (h : List Int) (A : Option Addr) (cap : Nat) (bs : List Bn) (W : World) : Prop where
  x : Row W w.heap.size 25 X
  r : Row W (w.heap.size + 1) 28 #[.int .i64 0, .slice none 0 0]
  b : Row W gb 28 #[.int .i64 (h.length : Int), .slice A bs.length cap]
  hd : W.ownsRow w.heap.size 3 1 (.slice (some ⟨gh, 0, none⟩) h.length hcap) h.length (intV h)
  own : W.ownsRow w.heap.size 30 3 (.slice A bs.length cap) bs.length (flat3 bs)
  below : Below w.heap.size w W
theorem Mk.step {w : World} {X : Array Value} {gb gh hcap : Nat} {h : List Int} {A : Option Addr} {cap : Nat} {bs : List Bn} {W Y : World} (k : Mk w X gb gh hcap h A cap bs W) (hb : Below W.heap.size W Y) : Mk w X gb gh hcap h A cap bs Y :=
  ⟨k.x.step hb, k.r.step hb, k.b.step hb, own_over k.hd hb, own_over k.own hb, below_step k.below hb⟩
theorem own_row3 {X : World} {base g k : Nat} {t e : TypeId} {s : Nat} {v : Value} {xs : List Value} {C : Array Value} (h : X.ownsRow base e s v k xs) (hr : Row X g t C) (hne : t ≠ e) : some g ≠ v.ownBlock := by
  intro e'
  rcases h.2 with ⟨rfl, _⟩ | ⟨g', cap, cur, rfl, _, hg, _⟩
  · simp [Value.ownBlock] at e'
  · have e2 : g = g' := by simpa [Value.ownBlock] using e'
    subst e2
    rw [show X.heap[g]? = _ from hr] at hg
    injection hg with hg
    injection hg with _ h2 _
    exact hne h2
theorem own_apart {X : World} {b1 b2 k1 k2 s1 s2 : Nat} {e1 e2 : TypeId} {v1 v2 : Value} {xs ys : List Value} (h : X.ownsRow b1 e1 s1 v1 k1 xs) (k : X.ownsRow b2 e2 s2 v2 k2 ys) (hne : e1 ≠ e2) : v1.ownBlock = none ∨ v1.ownBlock ≠ v2.ownBlock := by
  rcases h.2 with ⟨rfl, _⟩ | ⟨g', cap, cur, rfl, _, hg, _⟩
  · exact .inl rfl
  · exact .inr (fun e => own_row3 k (C := cur) (g := g') hg hne e)
/-- Behind the append of a bound, and its store into the box. -/
theorem Mk.next {w : World} {X : Array Value} {gb gh hcap : Nat} {h : List Int} {A : Option Addr} {cap : Nat} {bs : List Bn} {W w1 : World} {c : Bn} {n g' cap' : Nat} (hn : n = bs.length) (k : Mk w X gb gh hcap h A cap bs W) (hgb : w.heap.size + 1 < gb)
    (hg : W.grownBy w1 (Value.slice A n cap).ownBlock) (ho : w1.ownsRow w.heap.size 30 3 (.slice (some ⟨g', 0, none⟩) (n + 1) cap') (n + 1) (flat3 bs ++ enc3 c)) :
    Row w1 gb 28 #[.int .i64 (h.length : Int), .slice A n cap] ∧ Mk w X gb gh hcap h (some ⟨g', 0, none⟩) cap' (bs ++ [c]) (w1.setCell ⟨gb, 1, none⟩ (.slice (some ⟨g', 0, none⟩) (n + 1) cap')) := by
  subst hn
  have hlt := fun j hj => (k.own.lt j hj).1
  have keep : ∀ g t C, Row W g t C → t ≠ 30 → Row w1 g t C := fun g t C hr hne => hr.grown hg (own_row3 k.own hr hne)
  have b1 := keep _ _ _ k.b (by decide)
  have hl : (bs ++ [c]).length = bs.length + 1 := by simp
  have hd1 := k.hd.kept hg (own_apart k.hd k.own (by decide))
  have bin := k.b.inside
  refine ⟨b1, (keep _ _ _ k.x (by decide)).aside (p := ⟨gb, 1, none⟩) (by show gb ≠ w.heap.size; omega) _, (keep _ _ _ k.r (by decide)).aside (p := ⟨gb, 1, none⟩) (by show gb ≠ w.heap.size + 1; omega) _, ?_, ?_, ?_, ?_⟩
  · rw [hl]; exact b1.put1 _
  · exact hd1.kept (row := some gb) ⟨rfl, rfl, rfl, by simp, fun i _ hne => heap_setCell_other w1 ⟨gb, 1, none⟩ i _ (fun e => hne (by rw [e]))⟩ (.inr (fun e => own_row3 hd1 b1 (by decide) e.symm))
  · rw [hl, flat3_app, show flat3 [c] = enc3 c by simp [flat3]]
    exact ho.kept (row := some gb) ⟨rfl, rfl, rfl, by simp, fun i _ hne => heap_setCell_other w1 ⟨gb, 1, none⟩ i _ (fun e => hne (by rw [e]))⟩ (.inr (fun e => own_row3 ho b1 (by decide) e.symm))
  · exact (k.below.grown hg k.below.size hlt).setCell (p := ⟨gb, 1, none⟩) (by show w.heap.size ≤ gb; omega) _
end Go.Proofs.Ytkeimfkaoianmaa
