/- slices.Backward over tables. -/
import Derived.Test.YtkeimfkaoianmaaFo1
namespace Go.Proofs.Ytkeimfkaoianmaa
open Go.RowKit Go.Shelf

/-- A slice of tables that somebody holds: where each begins. -/
def Lots (w : World) (B : Nat) (A : Option Addr) (n : Nat) (ss : List Nat) : Prop := ss = [] ∨ ∃ g o : Nat, A = some ⟨g, o, none⟩ ∧ g < B ∧ ∀ (j s : Nat), ss[j]? = some s → w.cell? ⟨g, o + j, none⟩ = some (tblV s n)
theorem Lots.at {w : World} {B n : Nat} {A : Option Addr} {ss : List Nat} (h : Lots w B A n ss) {j s : Nat} (hj : ss[j]? = some s) : ∃ g o : Nat, A = some ⟨g, o, none⟩ ∧ g < B ∧ w.cell? ⟨g, o + j, none⟩ = some (.slice (some ⟨s, 0, none⟩) n n) := by
  rcases h with rfl | ⟨g, o, hA, hB, hc⟩
  · simp at hj
  · exact ⟨g, o, hA, hB, hc j s hj⟩
theorem Lots.keep {w X : World} {B n : Nat} {A : Option Addr} {ss : List Nat} (h : Lots w B A n ss) (hk : ∀ i, i < B → X.heap[i]? = w.heap[i]?) : Lots X B A n ss := by
  rcases h with h | ⟨g, o, hA, hB, hc⟩
  · exact .inl h
  · exact .inr ⟨g, o, hA, hB, fun j s hj => by rw [World.cell?_of_block (a := ⟨g, o + j, none⟩) (hk g hB)]; exact hc j s hj⟩
theorem Lots.more {w : World} {B B' n : Nat} {A : Option Addr} {ss : List Nat} (h : Lots w B A n ss) (hB' : B ≤ B') : Lots w B' A n ss := by
  rcases h with h | ⟨g, o, hA, hB, hc⟩
  · exact .inl h
  · exact .inr ⟨g, o, hA, Nat.lt_of_lt_of_le hB hB', hc⟩

def KeepB (Bn B _k _lo : Nat) (_x : Nat × Nat) (X Y : World) : Prop := X.heap.size ≤ Y.heap.size ∧ ∀ i, i < B ∨ i = Bn → i < X.heap.size → Y.heap[i]? = X.heap[i]?
def GivesB (ss : List Nat) (k _lo _z : Nat) (x : Nat × Nat) (_X : World) : Prop := x.1 + k + 1 = ss.length ∧ ss[x.1]? = some x.2
theorem KeepB.before {Bn B n₀ k lo : Nat} {x : Nat × Nat} {X Y Z : World} (h1 : B ≤ n₀) (h2 : Bn < n₀) (q : Quiet1 n₀ X Y) (h : KeepB Bn B k lo x Y Z) : KeepB Bn B k lo x X Z :=
  ⟨Nat.le_trans q.size h.1, fun i hi hx => (h.2 i hi (Nat.lt_of_lt_of_le hx q.size)).trans (q.same (by omega) hx)⟩
theorem KeepB.behind {Bn B n₀ k lo : Nat} {x : Nat × Nat} {X Y Z : World} (h1 : B ≤ n₀) (h2 : Bn < n₀) (h : KeepB Bn B k lo x X Y) (q : Quiet1 n₀ Y Z) : KeepB Bn B k lo x X Z :=
  ⟨Nat.le_trans h.1 q.size, fun i hi hx => (q.same (by omega) (Nat.lt_of_lt_of_le hx h.1)).trans (h.2 i hi hx)⟩

set_option maxRecDepth 100000 in
theorem backward_any (A : Option Addr) (K c : Nat) (w : World) :
    Calls Try.prog 62 #[.slice A K c] w fun e w' => e = .returned (.func (.func 68) #[] #[.pointer (some ⟨w.heap.size, 0, none⟩)]) ∧ w' = w.alloc (.cells #[.slice A K c] 80) := by
  go_enter Try.func62, Try.ntmps62
  go_wp2
  go_ret
  exact ⟨rfl, rfl⟩

section
attribute [local go_sem] Oper.semAt_some
set_option maxRecDepth 100000 in
set_option maxHeartbeats 4000000 in
theorem backward_hands (m n : Nat) (ss : List Nat) (A : Option Addr) (c Bn B : Nat) (hm : 2 ≤ m) (_hn : n ≤ 16) (hK : ss.length ≤ 1000) (w : World) (hBn : Row w Bn 80 #[.slice A ss.length c]) (hB : B ≤ w.heap.size) (hl : Lots w B A n ss) :
    Hands Fence.wide m Try.prog 68 #[.pointer (some ⟨Bn, 0, none⟩)] (fun x : Nat × Nat => #[.int .i64 (x.1 : Int), .slice (some ⟨x.2, 0, none⟩) n n]) ss.length (GivesB ss) (KeepB Bn B) w := by
  intro l J Jx W hW hJ hJx hY h0
  obtain ⟨L, hLL⟩ : ∃ L, L = ss.length := ⟨_, rfl⟩
  rw [← hLL] at hBn hK hY ⊢
  have hBW : Row W Bn 80 #[.slice A L c] := hBn.grown hW (by simp)
  have hlW : Lots W B A n ss := hl.keep (fun i hi => hW.block i (by omega) (by simp))
  have hBin := hBn.inside
  have hWs := hW.size
  have k0 := hBW.at (i := 0) rfl
  have HB := Lib.hid hBW; have HLW := Lib.hid hlW; have HLL := Lib.hid hLL; have HJ := Lib.hid hJ; have HY := Lib.hid hY; have H0 := Lib.hid h0
  clear hBW hlW hLL hJ hJx hY h0 hBn hl hW
  refine callsIn_of_wp Try.func68 rfl trivial ?_ rfl
  simp only [Try.ntmps68, List.size_toArray, List.length_cons, List.length_nil, Nat.reduceAdd, Nat.reduceSub, Array.replicate_succ, Array.replicate_zero, List.push_toArray, List.append_toArray, List.nil_append, List.cons_append]
  gi_wp2
  gi_loopg [3] L (fun g s3 wr => ∃ (k z : Nat) (q : Int), s3 = .int .i64 q ∧ q + 1 = g ∧ k + g = L ∧ J k 0 z wr ∧ Row wr Bn 80 #[.slice A L c] ∧ Lots wr B A n ss ∧ B ≤ wr.heap.size)
  case atStart => exact ⟨0, W.heap.size, _, rfl, by omega, by omega, H0.out 0, HB.out, HLW.out, by omega⟩
  case round =>
    clear k0 HB HLW
    obtain ⟨k, z, q, rfl, hq, hk, hj, hb, hl, hsz⟩ := hrel
    by_cases hlt : 0 ≤ q
    · obtain ⟨j, rfl⟩ := Int.eq_ofNat_of_zero_le hlt
      have hjL : j < L := by omega
      obtain ⟨s, hs⟩ : ∃ s, ss[j]? = some s := at_lt (by rw [← HLL.out]; exact hjL)
      obtain ⟨ga, o, hA, hga, e0⟩ := hl.at hs
      subst hA
      obtain ⟨fn, tmps, assign, body, hy1, hR⟩ := HY.out k 0 z (j, s) wr (by omega) hj ⟨by rw [← HLL.out]; show j + k + 1 = L; omega, hs⟩
      dsimp only at hy1
      have k0 := hb.at (i := 0) rfl
      have bin := hb.inside
      have HBB := Lib.hid hb; have HL := Lib.hid hl
      clear hb hl hs hj
      gi_wp2
      refine ⟨fun _ => (by omega), ?_⟩
      refine hR.mono ?_
      clear hR
      rintro e Y (⟨rfl, hJ', hK'⟩ | ⟨rfl, hjx⟩)
      · obtain ⟨sz, ks⟩ := hK'
        have hb' : Row Y Bn 80 #[.slice (some ⟨ga, o, none⟩) L c] := (ks Bn (.inr rfl) bin).trans HBB.out
        have hl' := HL.out.keep (fun i hi => ks i (.inl hi) (by omega))
        have HJ' := Lib.hid hJ'; have HB' := Lib.hid hb'; have HL' := Lib.hid hl'
        clear hJ' ks hb' hl' k0 e0
        gi_wp2
        gi_roundg j
        case measure => omega
        case rel => exact ⟨k + 1, Y.heap.size, (j : Int) - 1, by go_num, by omega, by omega, HJ'.out, HB'.out, HL'.out, by omega⟩
      · have HX := Lib.hid hjx
        clear hjx k0 e0
        gi_wp2
        exact bodyPost_ret (results_none rfl _ _ _) rfl ⟨⟨_, rfl⟩, .inr HX.out⟩
    · obtain rfl : k = L := by omega
      have HJJ := Lib.hid hj
      clear hj hb hl
      gi_wp2
      go_end0
      exact ⟨⟨_, rfl⟩, .inl ⟨_, _, HJJ.out⟩⟩
end
end Go.Proofs.Ytkeimfkaoianmaa
