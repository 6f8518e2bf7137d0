/- add: numbers put to an ascending list. -/
import Derived.Test.YtiglkecmamnphaaVal
import Derived.Test.YtiglkecmamnphaaShelf
import Derived.Sort.OwnSortedInts
import Derived.Deep.AppendLies
namespace Go.Proofs.Ytiglkecmamnphaa
open Go.RowKit Go.Sort Go.Lib

abbrev iC (xs : List Int) : List Value := xs.map (Value.int .i64)
/-- What add makes of two lists. -/
def addS (l xs : List Int) : List Int := compact ((l ++ xs).mergeSort fun x y => decide (x ≤ y))
def Up (l : List Int) : Prop := l.Pairwise (· < ·)
theorem compact_len (zs : List Int) : (compact zs).length ≤ zs.length := by
  unfold compact compactUpTo
  rw [List.length_map]
  exact Nat.le_trans (List.length_filter_le _ _) (by simp)
theorem addS_len (l xs : List Int) : (addS l xs).length ≤ l.length + xs.length := by
  have := compact_len ((l ++ xs).mergeSort fun x y => decide (x ≤ y))
  rw [List.length_mergeSort, List.length_append] at this
  exact this
theorem compact_up {zs : List Int} (h : Up zs) : compact zs = zs := by
  refine compact_all zs fun j hj => ?_
  cases j with
  | zero => exact keeps_lt_one _ 0 (by decide)
  | succ j =>
    refine keeps_pos ?_
    have h1 := List.pairwise_iff_getElem.1 h j (j + 1) (by omega) hj (by omega)
    have e1 : zs.toArray[j + 1]! = zs[j + 1] := by simp [hj]
    have e2 : zs.toArray[j + 1 - 1]! = zs[j] := by simp [show j < zs.length by omega]
    rw [e1, e2]
    omega
/-- A number above all of them goes to the end. -/
theorem addS_snoc {l : List Int} {x : Int} (h : Up l) (hx : ∀ y ∈ l, y < x) : addS l [x] = l ++ [x] := by
  have hu : Up (l ++ [x]) := by
    unfold Up
    rw [List.pairwise_append]
    exact ⟨h, List.pairwise_singleton .., fun a ha b hb => by rw [List.mem_singleton.1 hb]; exact hx a ha⟩
  unfold addS
  rw [List.mergeSort_of_pairwise (hu.imp fun {a b} hab => decide_eq_true (Int.le_of_lt hab))]
  exact compact_up hu
theorem addS_nil {l : List Int} (h : Up l) : addS l [] = l := by
  unfold addS
  rw [List.append_nil, List.mergeSort_of_pairwise (h.imp fun {a b} hab => decide_eq_true (Int.le_of_lt hab))]
  exact compact_up h
theorem num_info : (Try.prog.info? 3).map (fun i => (i.zero, i.size, i.bytes)) = some (some (.int .i64 0), 1, 8) := by kernel_rfl
theorem take_put {ts zs : List Int} {cur : Array Value} (h : (ts ++ zs).length ≤ cur.size) : (putCells (Value.int .i64) 0 (ts ++ zs).toArray cur).toList.take ts.length = iC ts := by
  have := take_putCellsI cur (ts ++ zs) h
  have e : (putCells (Value.int .i64) 0 (ts ++ zs).toArray cur).toList.take ts.length = ((putCells (Value.int .i64) 0 (ts ++ zs).toArray cur).toList.take (ts ++ zs).length).take ts.length := by
    rw [List.take_take, Nat.min_eq_left (by simp)]
  rw [e, this, List.map_append, List.take_append_of_le_length (by simp), List.take_of_length_le (by simp)]
theorem grown_trans {w X Y : World} {r r' : Option Nat} (h : w.grownBy X r) (k : X.grownBy Y r') (hr : ∀ g, r' = some g → r = some g ∨ w.heap.size ≤ g) : w.grownBy Y r := by
  refine ⟨k.os.trans h.os, k.tape.trans h.tape, k.output.trans h.output, Nat.le_trans h.size k.size, fun i hi hn => ?_⟩
  rw [k.block i (Nat.lt_of_lt_of_le hi h.size) (fun e => ?_), h.block i hi hn]
  rcases hr i e.symm with h1 | h1
  · exact hn h1.symm
  · omega

set_option maxRecDepth 100000 in
set_option maxHeartbeats 4000000 in
theorem add_any (base : Nat) (v : Value) (l : List Int) (XA : Option Addr) (xc : Nat) (xs : List Int) (w : World) (hbase : base ≤ w.heap.size) (hown : w.ownsRow base 3 1 v l.length (iC l)) (hx : Nums w w.heap.size XA xs) (hm : 0 < xs.length) (hlen : l.length + xs.length ≤ 1000) :
    Calls Try.prog 34 #[v, .slice XA xs.length xc] w fun e w' => ∃ g cap, e = .returned (.slice (some ⟨g, 0, none⟩) (addS l xs).length cap) ∧ w'.ownsRow base 3 1 (.slice (some ⟨g, 0, none⟩) (addS l xs).length cap) (addS l xs).length (iC (addS l xs)) ∧ w.grownBy w' v.ownBlock ∧ (v.ownBlock = some g ∨ w.heap.size ≤ g) := by
  obtain ⟨b, o, rfl, hbb, hc⟩ : ∃ b o : Nat, XA = some ⟨b, o, none⟩ ∧ b < w.heap.size ∧ ∀ (i : Nat) (r : Int), xs[i]? = some r → w.cell? ⟨b, o + i, none⟩ = some (.int .i64 r) := by
    rcases hx with h | h
    · rw [h] at hm; cases hm
    · exact h
  obtain ⟨i0, hi0, hz0, hz1, hz2⟩ := info_parts num_info
  obtain ⟨n, hn⟩ : ∃ n, n = l.length := ⟨_, rfl⟩
  obtain ⟨m, hmm⟩ : ∃ m, m = xs.length := ⟨_, rfl⟩
  have hnews : ∀ (j : Nat) (u : Value), (iC xs)[j]? = some u → w.cell? ((⟨b, o, none⟩ : Addr).add j) = some u := fun j u hu => by
    rw [List.getElem?_map] at hu
    cases hxj : xs[j]? with
    | none => rw [hxj] at hu; cases hu
    | some r =>
      rw [hxj] at hu
      cases hu
      have := hc j r hxj
      cases j with
      | zero => exact this
      | succ j => simpa [Addr.add] using this
  have hll : (iC xs).length = m * 1 := by rw [List.length_map, hmm, Nat.mul_one]
  have h1 : ∀ u ∈ iC xs, u.oneCell' = true := fun u hu => by
    obtain ⟨r, _, rfl⟩ := List.mem_map.1 hu
    rfl
  rw [← hn] at hown
  have hm' : 0 < m := by omega
  have hlen' : n + m ≤ 1000 := by omega
  obtain ⟨S, hS⟩ : ∃ S, S = (l ++ xs).mergeSort fun x y => decide (x ≤ y) := ⟨_, rfl⟩
  have hSl : S.length = n + m := by rw [hS, List.length_mergeSort, List.length_append, hn, hmm]
  have hCl := compact_len S
  have hT : addS l xs = compact S := by rw [hS]; rfl
  rw [hT, ← hmm]
  have HO := Lib.hid hown; have HN := Lib.hid hnews; have HL := Lib.hid hll; have H1 := Lib.hid h1; have HM := Lib.hid hm'; have HLE := Lib.hid hlen'; have HS := Lib.hid hS; have HSL := Lib.hid hSl; have HCL := Lib.hid hCl; have HN' := Lib.hid hn; have HM' := Lib.hid hmm
  clear hown hnews hll h1 hc hx hm hlen hm' hlen' hT hS hSl hCl hn hmm hbb
  go_enter Try.func34, Try.ntmps34
  go_upto_region 2 with (at_builtin; refine wpList_append_lies _ rfl _ _ 49 rfl base 3 i0 (.int .i64 0) 1 8 Try.underlying49 hi0 hz0 hz1 hz2 rfl (by decide) _ _ _ rfl HO.out ⟨b, o, none⟩ m xc (iC xs) rfl HL.out HN.out H1.out HM.out (by have := HLE.out; unfold maxLen; omega) (by have := HLE.out; omega) hbase w.heap.size rfl ?_; intro g cap w1 hown1 hgrow hat hlt; have O1 := Lib.hid hown1; have G1 := Lib.hid hgrow; have A1 := Lib.hid hat; have L1 := Lib.hid hlt; clear hown1 hgrow hat hlt)
  have ho1 := O1.out
  rcases ho1.2 with ⟨h0, _⟩ | ⟨g', cap', cur, hv, hbg, hg, hnc, hcm, hcs, htake⟩
  · cases h0
  obtain ⟨rfl, rfl⟩ : g = g' ∧ cap = cap' := by simpa using hv
  have hcur : cur.size = cap := by rw [hcs, Nat.mul_one]
  have hH : Holds (Value.int .i64) w1 g 0 (l ++ xs).toArray := by
    refine holds_of_blockI hg ?_
    rw [List.length_append, ← HN'.out, ← HM'.out, List.map_append]
    rw [Nat.mul_one] at htake
    exact htake
  have cS := Try.slices_Sort_int g 0 cap (l ++ xs) w1 hH L1.out (by rw [List.length_append, ← HN'.out, ← HM'.out]; have := HLE.out; omega)
  rw [List.length_append, ← HN'.out, ← HM'.out, ← HS.out] at cS
  have CS := Lib.hid cS; have HG := Lib.hid hg; have HC := Lib.hid hcur; have HNC := Lib.hid hnc; have HCM := Lib.hid hcm; have HBG := Lib.hid hbg
  clear cS hH htake hcs hv hg ho1 O1 hcur hnc hcm hbg
  go_upto_region 3 with (go_at_call 50; (with_reducible refine CS.out.mono ?_); rintro e w2 ⟨rfl, n2, os2, hw2⟩; have W2 := Lib.hid hw2; clear hw2)
  have hg2 : w2.heap[g]? = some (.cells (putCells (Value.int .i64) 0 S.toArray cur) 3 (0, 0)) := by rw [W2.out]; exact heap_sortedI _ HG.out
  have ht2 : (putCells (Value.int .i64) 0 S.toArray cur).toList.take S.length = S.map (Value.int .i64) := take_putCellsI cur S (by rw [HSL.out, HC.out]; exact HNC.out)
  have hH2 : Holds (Value.int .i64) w2 g 0 S.toArray := holds_of_blockI hg2 ht2
  have cC := Try.slices_Compact_int g 0 cap S w2 hH2 (by rw [HSL.out]; have := HLE.out; omega) (by rw [HSL.out]; exact HNC.out)
  rw [HSL.out] at cC
  have CC := Lib.hid cC; have HG2 := Lib.hid hg2
  clear cC hH2 ht2 hg2
  go_wp2_with (go_at_call 51; (with_reducible refine CC.out.mono ?_); rintro e w3 ⟨rfl, q3, hw3⟩; have W3 := Lib.hid hw3; clear hw3)
  go_ret
  have hg3 : w3.heap[g]? = some (.cells (putCells (Value.int .i64) 0 (compact S ++ List.replicate (n + m - (compact S).length) 0).toArray (putCells (Value.int .i64) 0 S.toArray cur)) 3 (0, 0)) := by
    rw [W3.out]
    have := heap_sortedI (n := q3) (os := #[]) (compact S ++ List.replicate (n + m - (compact S).length) 0).toArray HG2.out
    rw [grow_empty] at this
    exact this
  have hsz : (putCells (Value.int .i64) 0 S.toArray cur).size = cap := by simp [putCells, HC.out]
  have hle : (compact S).length ≤ cap := Nat.le_trans HCL.out (by rw [HSL.out]; exact HNC.out)
  refine ⟨g, cap, rfl, ⟨by simp, .inr ⟨g, cap, _, rfl, HBG.out, hg3, hle, HCM.out, by simp [putCells, HC.out], ?_⟩⟩, ?_, ?_⟩
  · rw [Nat.mul_one]
    refine take_put ?_
    rw [hsz, List.length_append, List.length_replicate]
    have := HNC.out; have := HCL.out; have := HSL.out
    omega
  · have k2 : w1.grownBy w2 (some g) := by rw [W2.out]; exact grownBy_sortedI _
    have k3 : w2.grownBy w3 (some g) := by
      rw [W3.out]
      have := grownBy_sortedI (w := w2) (g := g) (n := q3) (os := #[]) (compact S ++ List.replicate (n + m - (compact S).length) 0).toArray
      rw [grow_empty] at this
      exact this
    have hr : ∀ g2, some g = some g2 → v.ownBlock = some g2 ∨ w.heap.size ≤ g2 := fun g2 e => by
      cases e
      rcases A1.out with h | h
      · exact .inl h
      · exact .inr (by omega)
    exact grown_trans (grown_trans G1.out k2 hr) k3 hr
  · rcases A1.out with h | h
    · exact .inl h
    · exact .inr (by omega)
end Go.Proofs.Ytiglkecmamnphaa
