/- Cycle. -/
import Derived.Test.YtkeimfkaoianmaaImp
namespace Go.Proofs.Ytkeimfkaoianmaa
open Go.RowKit

def ints (l : List Nat) : List Int := l.map fun (i : Nat) => (i : Int)
theorem ints_len (l : List Nat) : (ints l).length = l.length := by simp [ints]
def shO (bs : List Bn) (n : Nat) (f t m : Int) : Option (List Nat) := ((List.range (n + 1)).find? fun k => decide (tb bs k f t ≤ m)).map fun k => folL bs k f t m
theorem find_range {p : Nat → Bool} : ∀ {n k : Nat}, (List.range n).find? p = some k ↔ k < n ∧ p k = true ∧ ∀ j, j < k → p j = false
  | 0, k => by simp
  | n + 1, k => by
    rw [List.range_succ, List.find?_append]
    cases h : (List.range n).find? p with
    | some k' =>
      have h' := find_range.1 h
      simp only [Option.some_or, Option.some.injEq]
      constructor
      · rintro rfl; exact ⟨by omega, h'.2.1, h'.2.2⟩
      · rintro ⟨h1, h2, h3⟩
        rcases Nat.lt_trichotomy k k' with h | h | h
        · have := h'.2.2 k h; rw [h2] at this; cases this
        · exact h.symm
        · have := h3 k' h; rw [h'.2.1] at this; cases this
    | none =>
      have hn := List.find?_eq_none.1 h
      rw [Option.none_or]
      constructor
      · intro hk
        rw [List.find?_cons] at hk
        cases hp : p n with
        | false => rw [hp] at hk; simp at hk
        | true =>
          rw [hp] at hk
          have hk : n = k := by simpa using hk
          subst hk
          exact ⟨by omega, hp, fun j hj => by simpa using hn j (List.mem_range.2 hj)⟩
      · rintro ⟨h1, h2, h3⟩
        have hkn : k = n := by
          rcases Nat.lt_or_ge k n with h | h
          · have := hn k (List.mem_range.2 h); rw [h2] at this; simp at this
          · omega
        subst hkn
        rw [List.find?_cons, h2]
theorem shO_some {bs : List Bn} {n : Nat} {f t m : Int} {l : List Nat} : shO bs n f t m = some l ↔ ∃ k, k ≤ n ∧ Fst bs k f t m ∧ l = folL bs k f t m := by
  unfold shO
  rw [Option.map_eq_some_iff]
  constructor
  · rintro ⟨k, hk, rfl⟩
    obtain ⟨h1, h2, h3⟩ := find_range.1 hk
    exact ⟨k, by omega, ⟨of_decide_eq_true h2, fun j hj => by have := of_decide_eq_false (h3 j hj); omega⟩, rfl⟩
  · rintro ⟨k, hk, hf, rfl⟩
    exact ⟨k, find_range.2 ⟨by omega, decide_eq_true hf.1, fun j hj => decide_eq_false (by have := hf.2 j hj; omega)⟩, rfl⟩
theorem shO_none {bs : List Bn} {n : Nat} {f t m : Int} : shO bs n f t m = none ↔ ∀ k, k ≤ n → m < tb bs k f t := by
  unfold shO
  rw [Option.map_eq_none_iff, List.find?_eq_none]
  constructor
  · intro h k hk
    have := h k (List.mem_range.2 (by omega))
    simp at this; omega
  · intro h k hk
    have := h k (by have := List.mem_range.1 hk; omega)
    simp; omega
theorem Fst.unique {bs : List Bn} {k j : Nat} {f t m : Int} (h : Fst bs k f t m) (g : Fst bs j f t m) : k = j := by
  rcases Nat.lt_trichotomy k j with e | e | e
  · have := g.2 k e; have := h.1; omega
  · exact e
  · have := h.2 j e; have := g.1; omega
theorem own_nums {X : World} {B g k cap : Nat} {l : List Nat} (h : X.ownsRow B 3 1 (.slice (some ⟨g, 0, none⟩) k cap) k (natV l)) : Nums X X.heap.size (some ⟨g, 0, none⟩) (ints l) := by
  have hlen := h.1
  rw [natV, List.length_map, Nat.mul_one] at hlen
  refine .inr ⟨g, 0, rfl, (h.lt g rfl).2, fun i r hr => ?_⟩
  have hi : i < k := by
    rcases Nat.lt_or_ge i l.length with h | h
    · omega
    · rw [ints, List.getElem?_eq_none (by simpa using h)] at hr; cases hr
  have := h.cellAt i (by omega)
  rw [Nat.zero_add, this, natV]
  rw [ints, List.getElem?_map] at hr
  rw [List.getElem?_map]
  cases hl : l[i]? with
  | none => rw [hl] at hr; cases hr
  | some a => rw [hl] at hr; cases hr; rfl
theorem ShPost.some {w : World} {bs : List Bn} {n : Nat} {f t m : Int} {e : Ending} {w' : World} {l : List Nat} (hl : shO bs n f t m = some l) (ho : Okb n bs) (hn : n ≤ 16) (hm : -1000000000 ≤ m ∧ m ≤ 1000000000) (h : ShPost w bs n f t m e w') :
    ∃ g cap : Nat, e = .returned (.tuple #[.slice (some ⟨g, 0, none⟩) l.length cap, .bool true]) ∧ Nums w' w'.heap.size (some ⟨g, 0, none⟩) (ints l) ∧ Below w.heap.size w w' := by
  obtain ⟨k, hk, hf, rfl⟩ := shO_some.1 hl
  rcases h with ⟨k', g, cap, h1, h2, rfl, h4, h5⟩ | ⟨h1, _, _⟩
  · obtain rfl := hf.unique h2
    have := (folL_way ho (by omega) hf (by unfold Sm; omega)).1
    exact ⟨g, cap, by rw [this], own_nums h4, h5⟩
  · have := h1 k hk; have := hf.1; omega
theorem ShPost.none {w : World} {bs : List Bn} {n : Nat} {f t m : Int} {e : Ending} {w' : World} (hl : shO bs n f t m = none) (h : ShPost w bs n f t m e w') : e = .returned (.tuple #[.slice none 0 0, .bool false]) ∧ Below w.heap.size w w' := by
  rcases h with ⟨k', g, cap, h1, h2, _⟩ | ⟨_, h2, h3⟩
  · have := shO_none.1 hl k' h1; have := h2.1; omega
  · exact ⟨h2, h3⟩

def cyStep (bs : List Bn) (n : Nat) (best : Option (List Nat)) (u : Nat) : Option (List Nat) := match shO bs n u u (-1) with
  | none => best
  | some l => match best with
    | none => some l
    | some b => if cmpC (ints l) (ints b) < 0 then some l else some b
def cyO (bs : List Bn) (n : Nat) : Option (List Nat) := (List.range n).foldl (cyStep bs n) none
theorem cyO_succ (bs : List Bn) (n k : Nat) : (List.range (k + 1)).foldl (cyStep bs n) none = cyStep bs n ((List.range k).foldl (cyStep bs n) none) k := by rw [List.range_succ, List.foldl_append]; rfl
/-- A list of indices, or none: as a value. -/
def OptV (W : World) (O : Option (List Nat)) (v : Value) : Prop := match O with
  | none => v = .slice none 0 0
  | some l => ∃ g cap : Nat, v = .slice (some ⟨g, 0, none⟩) l.length cap ∧ Nums W W.heap.size (some ⟨g, 0, none⟩) (ints l) ∧ l.length ≤ 16
theorem OptV.step {W X : World} {O : Option (List Nat)} {v : Value} (h : OptV W O v) (hb : Below W.heap.size W X) : OptV X O v := by
  cases O with
  | none => exact h
  | some l => obtain ⟨g, cap, h1, h2, h3⟩ := h; exact ⟨g, cap, h1, h2.deep hb, h3⟩

set_option maxRecDepth 100000 in
set_option maxHeartbeats 4000000 in
theorem cycle_any (N : Int) (bs : List Bn) (A : Option Addr) (c : Nat) (hbl : bs.length ≤ 9223372036854775807) (w : World) (hr : Rds w w.heap.size A bs) :
    Calls Try.prog 20 #[btw N A bs.length c] w fun e w' => ∃ v, e = .returned (.tuple #[v, .bool (if validB N bs then (cyO bs N.toNat).isSome else false)]) ∧ OptV w' (if validB N bs then cyO bs N.toNat else none) v ∧ Below w.heap.size w w' := by
  have hva := fun (W : World) (h : Below w.heap.size w W) => valid_any N bs A c hbl W (hr.deep h)
  by_cases hv : validB N bs = true
  · obtain ⟨⟨N0, N16⟩, h60, ho⟩ := validB_iff.1 hv
    obtain ⟨n, rfl⟩ := Int.eq_ofNat_of_zero_le N0
    rw [hv] at hva ⊢
    rw [if_pos rfl, if_pos rfl, Int.toNat_natCast]
    have hsh := fun (u : Nat) (hu : u < n) (W : World) (h : Below w.heap.size w W) => shortest_any n bs A c u u (-1) (by omega) ho h60 ⟨by omega, by omega⟩ ⟨by omega, by omega⟩ (by omega) W (hr.deep h)
    obtain ⟨R, hR⟩ : ∃ R, R = cyO bs n := ⟨_, rfl⟩
    rw [← hR]
    have hsz : ∀ u l, shO bs n u u (-1) = some l → l.length ≤ 16 := fun u l h => by
      obtain ⟨k, hk, hf, rfl⟩ := shO_some.1 h
      have := (folL_way ho (by omega) hf (by unfold Sm; omega)).1
      omega
    generalize bs.length = L at *
    unfold btw bnd at *
    dsimp only at hsh ⊢
    have HVA := Lib.hid hva; have HSH := Lib.hid hsh; have HR := Lib.hid hR; have HO := Lib.hid ho; have HSZ := Lib.hid hsz
    clear hva hsh hR ho h60 hv hr hsz
    have q22 : ∀ (w : World) (a : Option Addr) (n c n' c' : Nat), (binOp .eql 22 (.slice a n c) (.slice none n' c')).run Try.prog w = .ok (.bool a.isNone) w := fun w a n c n' c' => Lib.run_eql_slice_nil w _ _ a n c n' c' Try.underlying22
    go_enter Try.func20, Try.ntmps20
    go_wp2_with (go_at_call 22; (with_reducible refine (HVA.out _ (below_alloc _ _)).mono ?_); rintro e w2 ⟨rfl, b2⟩; have r2 : Bst w (n : Int) A L c w2 := ⟨(Row.made w 28 #[.int .i64 (n : Int), .slice A L c]).step b2, below_step (below_alloc _ _) b2⟩; have B2 := Lib.hid r2; obtain ⟨k0, k1, _, _⟩ := r2.b.two; clear b2 r2)
    go_loopg [4, 5, 6, 7, 13] n (fun kx s4 s5 s6 s7 s13 wr => ∃ (k : Nat) (O : Option (List Nat)), s13 = .int .i64 (k : Int) ∧ k + kx = n ∧ OptV wr O s4 ∧ Bst w (n : Int) A L c wr ∧ Hid (O = (List.range k).foldl (cyStep bs n) none))
    case atStart => exact ⟨0, none, rfl, by omega, rfl, B2.out, Lib.hid rfl⟩
    case round =>
      clear k0 k1 B2
      obtain ⟨k, O, rfl, hk, hO, hB, I⟩ := hrel
      by_cases hlt : k < n
      · have hI := cyO_succ bs n k
        rw [← I.out] at hI
        have hsk := HSH.out k hlt
        have stp : ∀ W X, (Bst w (n : Int) A L c W ∧ OptV W O u4) → Below W.heap.size W X → (Bst w (n : Int) A L c X ∧ OptV X O u4) := fun W X h hb => ⟨h.1.step hb, h.2.step hb⟩
        have kk : ∀ W, Bst w (n : Int) A L c W ∧ OptV W O u4 → (Hid (Bst w (n : Int) A L c W ∧ OptV W O u4) ∧ W.cell? ⟨w.heap.size, 0, none⟩ = some (.int .i64 (n : Int)) ∧ W.cell? ⟨w.heap.size, 1, none⟩ = some (.slice A L c)) := fun W h => ⟨Lib.hid h, h.1.b.two.1, h.1.b.two.2.1⟩
        obtain ⟨_, e0, e1⟩ := kk wr ⟨hB, hO⟩
        have hls := fun W => less_any (k : Int) W
        unfold bnd at hls
        dsimp only at hls
        have HE := Lib.hid (And.intro hB hO); have STP := Lib.hid stp; have KK := Lib.hid kk; have HLS := Lib.hid hls; have HI := Lib.hid hI
        clear stp kk hls hI hO hB
        cases hs : shO bs n (k : Int) (k : Int) (-1) with
        | none =>
          have hsk2 := fun (W : World) (h : Below w.heap.size w W) => (hsk W h).mono fun e w' hp => ShPost.none hs hp
          have HSK := Lib.hid hsk2; have HS := Lib.hid hs
          clear hsk hsk2 hs
          have hO' : cyStep bs n O k = O := by unfold cyStep; rw [HS.out]
          have HO' := Lib.hid hO'
          clear hO'
          go_upto_region 7 with (fail)
          go_region_held3 (fun W => Hid (Bst w (n : Int) A L c W ∧ OptV W O u4) ∧ W.cell? ⟨w.heap.size, 0, none⟩ = some (.int .i64 (n : Int)) ∧ W.cell? ⟨w.heap.size, 1, none⟩ = some (.slice A L c))
            (first | assumption | exact KK.out _ (STP.out _ _ HE.out ((Below.refl _ _).drew)) | exact KK.out _ (STP.out _ _ (Hid.out (And.left (by assumption))) (by assumption)) | fail)
            (first | (go_at_call 44; (with_reducible refine (HLS.out _).mono ?_); rintro e w5 ⟨rfl, b5⟩) | (go_at_call 43; (with_reducible refine (HSK.out _ (Bst.below (And.left (Hid.out (And.left (by assumption)))))).mono ?_); rintro e w6 ⟨rfl, b6⟩) | fail)
          go_wp2
          go_roundg (n - (k + 1))
          case measure => omega
          case rel =>
            have hfin := Hid.out (And.left (by assumption))
            exact ⟨k + 1, O, by go_num, by omega, hfin.2, hfin.1, Lib.hid (by rw [HI.out, HO'.out])⟩
        | some l =>
          have hl16 := HSZ.out _ _ hs
          have hsk2 := fun (W : World) (h : Below w.heap.size w W) => (hsk W h).mono fun e w' hp => ShPost.some hs HO.out (by omega) (by omega) hp
          have HSK := Lib.hid hsk2; have HS := Lib.hid hs
          clear hsk hsk2 hs
          cases O with
          | none =>
            have hu4 : u4 = .slice none 0 0 := HE.out.2
            subst hu4
            go_upto_region 7 with (fail)
            go_region_held3 (fun W => Hid (Bst w (n : Int) A L c W ∧ OptV W none (Value.slice none 0 0)) ∧ W.cell? ⟨w.heap.size, 0, none⟩ = some (.int .i64 (n : Int)) ∧ W.cell? ⟨w.heap.size, 1, none⟩ = some (.slice A L c))
              (first | assumption | exact KK.out _ (STP.out _ _ HE.out ((Below.refl _ _).drew)) | exact KK.out _ (STP.out _ _ (Hid.out (And.left (by assumption))) (by assumption)) | fail)
              (first | (go_at_call 44; (with_reducible refine (HLS.out _).mono ?_); rintro e w5 ⟨rfl, b5⟩) | (go_at_call 43; (with_reducible refine (HSK.out _ (Bst.below (And.left (Hid.out (And.left (by assumption)))))).mono ?_); rintro e w6 ⟨g6, c6, rfl, n6, b6⟩; have N6 := Lib.hid n6; clear n6) | fail)
            go_wp2
            go_roundg (n - (k + 1))
            case measure => omega
            case rel =>
              have hfin := Hid.out (And.left (by assumption))
              exact ⟨k + 1, some l, by go_num, by omega, ⟨g6, c6, rfl, N6.out, hl16⟩, hfin.1, Lib.hid (by rw [HI.out]; unfold cyStep; rw [HS.out])⟩
          | some b =>
            obtain ⟨gb, cb, hu4, hnb, hb16⟩ := HE.out.2
            subst hu4
            have HNB := Lib.hid hnb
            clear hnb
            obtain ⟨q, hq⟩ : ∃ q, q = cmpC (ints l) (ints b) := ⟨_, rfl⟩
            have hcm := fun (A1 B1 : Option Addr) (c1 c2 : Nat) (W : World) (h1 : Nums W W.heap.size A1 (ints l)) (h2 : Nums W W.heap.size B1 (ints b)) => compare_any (ints l) (ints b) A1 B1 c1 c2 (by rw [ints_len]; omega) (by rw [ints_len]; omega) W h1 h2
            rw [ints_len, ints_len, ← hq] at hcm
            have HCM := Lib.hid hcm; have HQ := Lib.hid hq
            clear hcm hq
            go_upto_region 7 with (fail)
            go_region_held3 (fun W => Hid (Bst w (n : Int) A L c W ∧ OptV W (some b) (Value.slice (some ⟨gb, 0, none⟩) b.length cb)) ∧ W.cell? ⟨w.heap.size, 0, none⟩ = some (.int .i64 (n : Int)) ∧ W.cell? ⟨w.heap.size, 1, none⟩ = some (.slice A L c))
              (first | assumption | exact KK.out _ (STP.out _ _ HE.out ((Below.refl _ _).drew)) | exact KK.out _ (STP.out _ _ (Hid.out (And.left (by assumption))) (by assumption)) | fail)
              (first | (go_at_call 44; (with_reducible refine (HLS.out _).mono ?_); rintro e w5 ⟨rfl, b5⟩) | (go_at_call 43; (with_reducible refine (HSK.out _ (Bst.below (And.left (Hid.out (And.left (by assumption)))))).mono ?_); rintro e w6 ⟨g6, c6, rfl, n6, b6⟩; have N6 := Lib.hid n6; clear n6) | fail)
            have hfin := Hid.out (And.left (by assumption))
            have hb2 : Nums w6 w6.heap.size (some ⟨gb, 0, none⟩) (ints b) := by
              obtain ⟨g1, c1, e1, h1, _⟩ := hfin.2
              cases e1; exact h1
            have HFIN := Lib.hid hfin; have HB2 := Lib.hid hb2
            clear hfin hb2
            by_cases hq0 : q < 0
            · go_wp2_with (go_at_call 45; (with_reducible refine (HCM.out _ _ _ _ _ N6.out HB2.out).mono ?_); rintro e w7 ⟨rfl, b7⟩; have B7 := Lib.hid b7; clear b7)
              go_roundg (n - (k + 1))
              case measure => omega
              case rel => exact ⟨k + 1, some l, by go_num, by omega, ⟨g6, c6, rfl, N6.out.deep B7.out, hl16⟩, HFIN.out.1.step B7.out, Lib.hid (by rw [HI.out]; unfold cyStep; rw [HS.out]; dsimp only; rw [if_pos (by rw [← HQ.out]; exact hq0)])⟩
            · go_wp2_with (go_at_call 45; (with_reducible refine (HCM.out _ _ _ _ _ N6.out HB2.out).mono ?_); rintro e w7 ⟨rfl, b7⟩; have B7 := Lib.hid b7; clear b7)
              go_roundg (n - (k + 1))
              case measure => omega
              case rel => exact ⟨k + 1, some b, by go_num, by omega, HFIN.out.2.step B7.out, HFIN.out.1.step B7.out, Lib.hid (by rw [HI.out]; unfold cyStep; rw [HS.out]; dsimp only; rw [if_neg (by rw [← HQ.out]; omega)])⟩
      · obtain rfl : k = n := by omega
        have hI := I.out
        have hRO : R = O := by rw [hI, HR.out]; rfl
        have HRO := Lib.hid hRO; have HB := Lib.hid hB
        clear hI I hRO hB
        cases O with
        | none =>
          have hu4 : u4 = .slice none 0 0 := hO
          subst hu4
          clear hO
          go_wp2
          go_ret2
          exact ⟨_, by rw [HRO.out]; rfl, by rw [HRO.out]; rfl, HB.out.below⟩
        | some b =>
          obtain ⟨gb, cb, hu4, hnb, hb16⟩ := hO
          subst hu4
          have HNB := Lib.hid hnb
          clear hnb
          go_wp2
          go_ret2
          exact ⟨_, by rw [HRO.out]; rfl, by rw [HRO.out]; exact ⟨gb, cb, rfl, HNB.out, hb16⟩, HB.out.below⟩
  · have hv' : validB N bs = false := bnot hv
    rw [hv'] at hva
    rw [hv', if_neg (by simp), if_neg (by simp)]
    generalize bs.length = L at *
    unfold btw at *
    have HVA := Lib.hid hva
    clear hva hv hv' hr
    go_enter Try.func20, Try.ntmps20
    go_wp2_with (go_at_call 22; (with_reducible refine (HVA.out _ (below_alloc _ _)).mono ?_); rintro e w2 ⟨rfl, b2⟩; have B2 := Lib.hid (below_step (below_alloc _ _) b2); clear b2)
    go_ret2
    exact ⟨_, rfl, rfl, B2.out⟩
end Go.Proofs.Ytkeimfkaoianmaa
