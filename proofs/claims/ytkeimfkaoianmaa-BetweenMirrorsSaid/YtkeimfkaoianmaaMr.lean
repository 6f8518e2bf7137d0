/- BetweenMirrors: its memory; what its calls answer. -/
import Derived.Test.YtkeimfkaoianmaaTw
import Derived.Test.YtkeimfkaoianmaaMo
namespace Go.Proofs.Ytkeimfkaoianmaa
open Go.RowKit

/-- Below G the world is as it was; at G a box whose bounds are the call's own. -/
structure Mir (W3 wr : World) (G : Nat) (d : Int) (AF : Option Addr) (cF : Nat) (F : List Bn) : Prop where
  bel : Below G W3 wr
  f : Own1 (G + 1) wr G d AF cF F
  size : G + 1 ≤ wr.heap.size
section
variable {W3 wr X w1 : World} {G cF : Nat} {d : Int} {AF : Option Addr} {F : List Bn}
theorem Mir.later (h : Mir W3 wr G d AF cF F) (o : Obj) : Mir W3 (wr.alloc o) G d AF cF F := ⟨h.bel.alloc (by have := h.size; omega) o, h.f.later o, by have := h.size; simp; omega⟩
theorem Mir.drew (h : Mir W3 wr G d AF cF F) : Mir W3 wr.drew G d AF cF F := ⟨h.bel.drew, ⟨h.f.row, h.f.own⟩, h.size⟩
theorem Mir.grow (h : Mir W3 X G d AF cF F) {n : Nat} (hg : X.grownBy w1 (Value.slice AF n cF).ownBlock) : Below G W3 w1 := by
  have hs := h.size
  rw [ob_own] at hg
  exact h.bel.grown hg (by omega) (fun k hk => by have := (h.f.own.lt k (by rw [ob_own]; exact hk)).1; omega)
theorem Mir.push (h : Mir W3 X G d AF cF F) {n g' cap' : Nat} {r : Bn} (hn : n = F.length) (hg : X.grownBy w1 (Value.slice AF n cF).ownBlock)
    (ho : w1.ownsRow (G + 1) 30 3 (.slice (some ⟨g', 0, none⟩) (n + 1) cap') (n + 1) (flat3 F ++ enc3 r)) :
    Row w1 G 28 #[.int .i64 d, .slice AF n cF] ∧ Mir W3 (w1.setCell ⟨G, 1, none⟩ (.slice (some ⟨g', 0, none⟩) (n + 1) cap')) G d (some ⟨g', 0, none⟩) cap' (F ++ [r]) := by
  obtain ⟨n1, n2⟩ := Own1.next hn (by omega) h.f hg ho
  have hs := hg.size
  have b := h.grow hg
  exact ⟨n1, ⟨b.setCell (p := ⟨G, 1, none⟩) (Nat.le_refl _) _, n2, by have := h.size; simp [World.setCell]; omega⟩⟩
end
/-- Two rows of integers of the call's own. -/
structure Tw3 (W5 wr : World) (B : Nat) (A1 : Option Addr) (c1 : Nat) (l1 : List Int) (A2 : Option Addr) (c2 : Nat) (l2 : List Int) : Prop where
  bel : Below B W5 wr
  o1 : wr.ownsRow B 3 1 (.slice A1 l1.length c1) l1.length (intV l1)
  o2 : wr.ownsRow B 3 1 (.slice A2 l2.length c2) l2.length (intV l2)
  sep : ∀ j, ob A1 = some j → ob A2 = some j → False
  size : B ≤ wr.heap.size
section
variable {W5 wr X w1 : World} {B c1 c2 : Nat} {A1 A2 : Option Addr} {l1 l2 : List Int}
theorem Tw3.later (h : Tw3 W5 wr B A1 c1 l1 A2 c2 l2) (o : Obj) : Tw3 W5 (wr.alloc o) B A1 c1 l1 A2 c2 l2 := ⟨h.bel.alloc h.size o, h.o1.alloc o, h.o2.alloc o, h.sep, by have := h.size; simp; omega⟩
theorem Tw3.drew (h : Tw3 W5 wr B A1 c1 l1 A2 c2 l2) : Tw3 W5 wr.drew B A1 c1 l1 A2 c2 l2 := ⟨h.bel.drew, h.o1, h.o2, h.sep, h.size⟩
theorem Tw3.push1 (h : Tw3 W5 X B A1 c1 l1 A2 c2 l2) {n g' cap' H : Nat} {v : Int} (hn : n = l1.length) (hg : X.grownBy w1 (Value.slice A1 n c1).ownBlock)
    (ho : w1.ownsRow B 3 1 (.slice (some ⟨g', 0, none⟩) (n + 1) cap') (n + 1) (intV l1 ++ [.int .i64 v])) (hat : (Value.slice A1 n c1).ownBlock = some g' ∨ g' = H) (hH : X.heap.size = H) :
    Tw3 W5 w1 B (some ⟨g', 0, none⟩) cap' (l1 ++ [v]) A2 c2 l2 := by
  subst hn
  have hs := hg.size
  have hlt2 : ∀ j, ob A2 = some j → j < X.heap.size := fun j e => (h.o2.lt j (by rw [ob_own]; exact e)).2
  have b : Below B W5 w1 := by
    rw [ob_own] at hg
    exact h.bel.grown hg h.size (fun k hk => (h.o1.lt k (by rw [ob_own]; exact hk)).1)
  rw [ob_own] at hg hat
  refine ⟨b, by rw [List.length_append, intV_app]; exact ho, h.o2.kept hg ?_, fun j e1 e2 => ?_, by have := h.size; omega⟩
  · rw [ob_own]
    cases hA : ob A2 with
    | none => exact .inl rfl
    | some j => exact .inr (fun e => h.sep j e.symm hA)
  · have e1' : g' = j := by simpa [ob] using e1
    subst e1'
    rcases hat with hat | hat
    · exact h.sep _ hat e2
    · have := hlt2 _ e2; omega
theorem Tw3.swap (h : Tw3 W5 wr B A1 c1 l1 A2 c2 l2) : Tw3 W5 wr B A2 c2 l2 A1 c1 l1 := ⟨h.bel, h.o2, h.o1, fun j a b => h.sep j b a, h.size⟩
theorem Tw3.push2 (h : Tw3 W5 X B A1 c1 l1 A2 c2 l2) {n g' cap' H : Nat} {v : Int} (hn : n = l2.length) (hg : X.grownBy w1 (Value.slice A2 n c2).ownBlock)
    (ho : w1.ownsRow B 3 1 (.slice (some ⟨g', 0, none⟩) (n + 1) cap') (n + 1) (intV l2 ++ [.int .i64 v])) (hat : (Value.slice A2 n c2).ownBlock = some g' ∨ g' = H) (hH : X.heap.size = H) :
    Tw3 W5 w1 B A1 c1 l1 (some ⟨g', 0, none⟩) cap' (l2 ++ [v]) := (h.swap.push1 hn hg ho hat hH).swap
end
theorem own_intAny {X : World} {B k cap : Nat} {A : Option Addr} {l : List Int} (h : X.ownsRow B 3 1 (.slice A k cap) k (intV l)) : Nums X X.heap.size A l := by
  rcases h.2 with ⟨h1, h2⟩ | ⟨g, c, cur, hv, _⟩
  · have : l = [] := by
      have := h.1
      rw [intV, List.length_map, Nat.mul_one] at this
      exact List.eq_nil_of_length_eq_zero (by omega)
    exact .inl this
  · cases hv
    exact own_intNums h
theorem own_free {w : World} {B g n cap k : Nat} {e : TypeId} {xs : List Value} (h : w.ownsRow B e k (.slice (some ⟨g, 0, none⟩) n cap) n xs) (i : Nat) : w.frozen? ⟨g, i, none⟩ = false := by
  rcases h.2 with ⟨h1, _⟩ | ⟨g', c, cur, hv, _, hg, _⟩
  · cases h1
  · cases hv
    exact frozen_of_row w g i cur e hg
theorem one_new (W : World) (a : Value) (t : TypeId) : ∀ (j : Nat) (u : Value), [a][j]? = some u → (W.alloc (Obj.cells #[a] t)).cell? ((⟨W.heap.size, 0, none⟩ : Addr).add j) = some u := by
  intro j u hj
  have e0 : (⟨W.heap.size, 0, none⟩ : Addr).add j = ⟨W.heap.size, j, none⟩ := by unfold Addr.add; split <;> simp_all
  rw [e0]
  exact (Row.made W t #[a]).at (by simpa using hj)
theorem intV_set (l : List Int) (i : Nat) (v : Int) : (intV l).set i (.int .i64 v) = intV (l.set i v) := by simp [intV, List.map_set]
section
variable {bs : List Bn} {n : Nat} (hbs : Okb (n : Int) bs) (hva : validB (n : Int) bs = true) (hn : 1 ≤ n ∧ n ≤ 8) (hK : bs.length ≤ 16)
include hbs hva hn hK
theorem mirror_allowed {hl : List Int} (hlen : hl.length = n) (hb : ∀ a ∈ hl, -1000 ≤ a ∧ a ≤ 1000) {d : Int} (hd : -1000000 ≤ d ∧ d ≤ 1000000) : ∃ q : Bool, (fineB (n : Int) bs = false → q = false) ∧
    (∀ A cp XA xc W, Rds W W.heap.size A bs → Nums W W.heap.size XA hl → Calls Try.prog 27 #[btw n A bs.length cp, .slice XA n xc] W fun e w' => e = .returned (.bool q) ∧ Below W.heap.size W w') ∧
    (∀ A cp XA xc W, Rds W W.heap.size A bs → Nums W W.heap.size XA (hl.map fun a => a + d) → Calls Try.prog 27 #[btw n A bs.length cp, .slice XA n xc] W fun e w' => e = .returned (.bool q) ∧ Below W.heap.size W w') ∧
    (∀ A cp XA xc W, Rds W W.heap.size A (bs.map trn) → Nums W W.heap.size XA (hl.map fun a => -a) → Calls Try.prog 27 #[btw n A bs.length cp, .slice XA n xc] W fun e w' => e = .returned (.bool q) ∧ Below W.heap.size W w') := by
  refine ⟨allowedB (n : Int) bs hl, fun hf => ?_, fun A cp XA xc W r q => ?_, fun A cp XA xc W r q => ?_, fun A cp XA xc W r q => ?_⟩
  · cases h : allowedB (n : Int) bs hl with
    | false => rfl
    | true =>
      have := allowed_fine h
      rw [fineB_nat, hva, (badB_false (by omega) hbs).2 this] at hf
      cases hf
  · have := allowed_any n bs A cp hl XA xc (by omega) (by omega) W r q
    rw [hlen] at this
    exact this
  · have := allowed_any n bs A cp _ XA xc (by omega) (by rw [List.length_map]; omega) W r q
    rw [allowed_moved hva hlen hb d hd, List.length_map, hlen] at this
    exact this
  · have := allowed_any n _ A cp _ XA xc (by rw [List.length_map]; omega) (by rw [List.length_map]; omega) W r q
    rw [allowed_trn, List.length_map, List.length_map, hlen] at this
    exact this
omit hva in
theorem mirror_yes (hf : fineB (n : Int) bs = true) : (∀ A c W, Rds W W.heap.size A bs → Calls Try.prog 16 #[btw n A bs.length c] W fun e w' => ∃ s, e = .returned (.tuple #[tblV s n, .int .i64 0]) ∧ Tbl w' s n (tb bs n) ∧ Below W.heap.size W w') ∧
    (∀ A c W, Rds W W.heap.size A (bs.map trn) → Calls Try.prog 16 #[btw n A bs.length c] W fun e w' => ∃ s, e = .returned (.tuple #[tblV s n, .int .i64 0]) ∧ Tbl w' s n (tb (bs.map trn) n) ∧ Below W.heap.size W w') ∧ ∀ u v, tb (bs.map trn) n v u = tb bs n u v := by
  refine ⟨fun A c W r => close_yes n bs A c hf (by omega) W r, fun A c W r => ?_, fun u v => tb_trn hbs (by omega) u v⟩
  have := close_yes n (bs.map trn) A c (by rw [fineB_trn hbs (by omega)]; exact hf) (by rw [List.length_map]; omega) W r
  rw [List.length_map] at this
  exact this
omit hva in
theorem mirror_no (hf : fineB (n : Int) bs = false) : (∀ A c W, Rds W W.heap.size A bs → Calls Try.prog 16 #[btw n A bs.length c] W fun e w' => e = .returned (.tuple #[.slice none 0 0, .int .i64 60]) ∧ Below W.heap.size W w') ∧
    (∀ A c W, Rds W W.heap.size A (bs.map trn) → Calls Try.prog 16 #[btw n A bs.length c] W fun e w' => e = .returned (.tuple #[.slice none 0 0, .int .i64 60]) ∧ Below W.heap.size W w') := by
  refine ⟨fun A c W r => close_no n bs A c hf (by omega) W r, fun A c W r => ?_⟩
  have := close_no n (bs.map trn) A c (by rw [fineB_trn hbs (by omega)]; exact hf) (by rw [List.length_map]; omega) W r
  rw [List.length_map] at this
  exact this
end
end Go.Proofs.Ytkeimfkaoianmaa
