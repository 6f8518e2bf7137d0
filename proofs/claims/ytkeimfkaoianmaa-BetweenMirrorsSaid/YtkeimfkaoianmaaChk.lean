/- shows, CheckCycle, CheckChain, Implied. -/
import Derived.Test.YtkeimfkaoianmaaCmp
namespace Go.Proofs.Ytkeimfkaoianmaa
open Go.RowKit

/-- Where the chain leads, and its sum; none if it is no chain. -/
def goL (bs : List Bn) : Int → Int → List Int → Option (Int × Int)
  | e, s, [] => some (e, s)
  | e, s, i :: l => if 0 ≤ i then match bs[i.toNat]? with
    | some c => if c.1 = e then goL bs c.2.1 (s + c.2.2) l else none
    | none => none else none
def showsB (bs : List Bn) (x : Bn) (l : List Int) : Bool := decide (l.length ≤ 60) && match goL bs x.1 0 l with
  | some (e, s) => decide (e = x.2.1) && decide (s ≤ x.2.2)
  | none => false

set_option maxRecDepth 100000 in
set_option maxHeartbeats 4000000 in
theorem shows_any (N : Int) (bs : List Bn) (A : Option Addr) (c : Nat) (x : Bn) (l : List Int) (LA : Option Addr) (lc : Nat) (ho : Okb N bs) (_h60 : bs.length ≤ 60) (hl : l.length ≤ 9223372036854775807) (w : World) (hr : Rds w w.heap.size A bs) (hn : Nums w w.heap.size LA l) :
    Calls Try.prog 52 #[btw N A bs.length c, bnd x, .slice LA l.length lc] w fun e w' => e = .returned (.bool (showsB bs x l)) ∧ Below w.heap.size w w' := by
  obtain ⟨f, t, m⟩ := x
  obtain ⟨K, hK⟩ : ∃ K, K = l.length := ⟨_, rfl⟩
  obtain ⟨L, hL⟩ : ∃ L, L = bs.length := ⟨_, rfl⟩
  have hs : showsB bs (f, t, m) l = (decide (K ≤ 60) && match goL bs f 0 l with | some (e, s) => decide (e = t) && decide (s ≤ m) | none => false) := by rw [hK]; rfl
  rw [hs, ← hK, ← hL]
  rw [← hK] at hl
  rw [← hL] at _h60
  clear hs
  unfold btw bnd
  dsimp only
  by_cases hk60 : K ≤ 60
  · rw [decide_eq_true hk60, Bool.true_and]
    obtain ⟨R, hR⟩ : ∃ R : Bool, R = match goL bs f 0 l with | some (e, s) => decide (e = t) && decide (s ≤ m) | none => false := ⟨_, rfl⟩
    rw [← hR]
    obtain ⟨W2, hW2⟩ : ∃ W2, W2 = (w.alloc (.cells #[.int .i64 N, .slice A L c] 28)).alloc (.cells #[.int .i64 f, .int .i64 t, .int .i64 m] 30) := ⟨_, rfl⟩
    have b2 : Below w.heap.size w W2 := by rw [hW2]; exact keep_alloc (below_alloc _ _) _
    have r1 : Row W2 w.heap.size 28 #[.int .i64 N, .slice A L c] := by rw [hW2]; exact (Row.made _ _ _).later _
    have r2 : Row W2 (w.heap.size + 1) 30 #[.int .i64 f, .int .i64 t, .int .i64 m] := by rw [hW2]; exact Row.made_at _ _ _ (by simp)
    have hn2 := hn.deep b2
    have hr2 := hr.deep b2
    obtain ⟨k0, k1, _, _⟩ := r1.two
    obtain ⟨m0, m1, m2, _, _, _⟩ := r2.three
    have HK := Lib.hid hK; have HL := Lib.hid hL; have HO := Lib.hid ho; have HN := Lib.hid hn2; have HRD := Lib.hid hr2; have HR := Lib.hid hR; have B2 := Lib.hid b2; have HW := Lib.hid hW2
    clear hK hL ho hn hr hn2 hr2 hR b2 r1 r2 hW2
    go_enter Try.func52, Try.ntmps52
    go_wp2
    rw [← HW.out]
    clear HW
    go_loopg [7, 8, 10, 18] K (fun kx s7 s8 s10 s18 wr => ∃ (k : Nat) (e s : Int), s18 = .int .i64 (k : Int) ∧ k + kx = K ∧ s7 = .int .i64 e ∧ s8 = .int .i64 s ∧ -1000000000 * (k : Int) ≤ s ∧ s ≤ 1000000000 * (k : Int) ∧
      Hid (R = match goL bs e s (l.drop k) with | some (e, s) => decide (e = t) && decide (s ≤ m) | none => false) ∧ wr = W2)
    case atStart => exact ⟨0, f, 0, rfl, by omega, rfl, rfl, by omega, by omega, by simpa using HR, rfl⟩
    case round =>
      obtain ⟨k, e, s, rfl, hk, rfl, rfl, s0, s1, I, hwr⟩ := hrel
      subst hwr
      by_cases hlt : k < K
      · obtain ⟨i, hi⟩ : ∃ y, l[k]? = some y := at_lt (by rw [← HK.out]; exact hlt)
        obtain ⟨bb, o, hA, _, e0⟩ := HN.out.at hi
        subst hA
        have hI := I.out
        obtain ⟨p1, p2⟩ := List.getElem?_eq_some_iff.1 hi
        rw [List.drop_eq_getElem_cons p1, p2, goL] at hI
        by_cases hi0 : 0 ≤ i
        · rw [if_pos hi0] at hI
          obtain ⟨i, rfl⟩ := Int.eq_ofNat_of_zero_le hi0
          rw [Int.toNat_natCast] at hI
          by_cases hiL : i < L
          · obtain ⟨⟨cf, ct, cm⟩, hc⟩ : ∃ y, bs[i]? = some y := at_lt (by rw [← HL.out]; exact hiL)
            obtain ⟨bb2, o2, hA2, _, q0, q1, q2⟩ := HRD.out.at hc
            subst hA2
            obtain ⟨_, _, cm0, cm1⟩ := HO.out.at hc
            rw [hc] at hI
            dsimp only at q0 q1 q2 cm0 cm1 hI
            by_cases hce : cf = e
            · rw [if_pos hce] at hI
              subst hce
              have HI := Lib.hid hI
              clear hI I hi hc p1 p2
              go_wp2
              go_roundg (K - (k + 1))
              case measure => omega
              case rel => exact ⟨k + 1, ct, s + cm, by go_num, by omega, rfl, rfl, by omega, by omega, HI, rfl⟩
            · rw [if_neg hce] at hI
              have d1 : (cf != e) = true := by simpa using hce
              have HI := Lib.hid hI
              clear hI I hi hc p1 p2
              go_wp2
              go_ret
              exact ⟨by rw [HI.out]; rfl, B2.out⟩
          · rw [List.getElem?_eq_none (l := bs) (by rw [← HL.out]; omega)] at hI
            have HI := Lib.hid hI
            have hiL2 : L ≤ i := by omega
            clear hI I hi p1 p2
            go_wp2
            go_ret
            exact ⟨by rw [HI.out]; rfl, B2.out⟩
        · rw [if_neg hi0] at hI
          have HI := Lib.hid hI
          have hi1 : i < 0 := by omega
          clear hI I hi p1 p2
          go_wp2
          go_ret
          exact ⟨by rw [HI.out]; rfl, B2.out⟩
      · have hI := I.out
        rw [List.drop_of_length_le (by rw [← HK.out]; omega), goL] at hI
        dsimp only at hI
        by_cases het : e = t
        · subst het
          have HI := Lib.hid hI
          by_cases hsm : s ≤ m
          · clear hI I
            go_wp2
            go_ret
            exact ⟨by rw [HI.out]; simp [hsm], B2.out⟩
          · clear hI I
            go_wp2
            go_ret
            exact ⟨by rw [HI.out]; simp [hsm], B2.out⟩
        · have d1 : (e == t) = false := by simpa using het
          have HI := Lib.hid hI
          have HET := Lib.hid het
          clear hI I
          go_wp2
          go_ret
          exact ⟨by rw [HI.out, decide_eq_false HET.out]; rfl, B2.out⟩
  · rw [decide_eq_false hk60, Bool.false_and]
    clear hK hL
    go_enter Try.func52, Try.ntmps52
    go_wp2
    go_ret
    exact ⟨rfl, keep_alloc (below_alloc _ _) _⟩

def checkCycleB (N : Int) (bs : List Bn) (l : List Int) : Bool := validB N bs && (List.range N.toNat).any fun u => showsB bs ((u : Int), (u : Int), -1) l
def checkChainB (N : Int) (bs : List Bn) (x : Bn) (l : List Int) : Bool := validB N bs && bndB N x && showsB bs x l
end Go.Proofs.Ytkeimfkaoianmaa
