/- forget: the pending writes end. -/
import Derived.Test.YtghcffpcblficaaTk
namespace Go.Proofs.Ytghcffpcblficaa
open Go.RowKit Go.Lib

theorem wr_info : (Try.prog.info? 71).map (fun i => (i.zero, i.size, i.bytes)) = some (some (.agg #[.int .i64 0, .string ⟨#[]⟩]), 2, 24) := by kernel_rfl
def wz : Array Value := #[.int .i64 0, .string ⟨#[]⟩]
theorem zero_one (n : Nat) : ∀ v ∈ (Builtin.zeroCells wz n).toList, v.oneCell' = true := by
  intro v hv
  simp only [Builtin.zeroCells, Array.toList_map, List.mem_map] at hv
  obtain ⟨i, _, rfl⟩ := hv
  have h2 : i % 2 = 0 ∨ i % 2 = 1 := by omega
  show (wz[i % 2]!).oneCell' = true
  rcases h2 with h | h <;> rw [h] <;> rfl
theorem run_clear_own {w : World} {B n : Nat} {pv : Value} {xs : List Value} (h : w.ownsRow B 71 2 pv n xs) :
    ∃ w1, (∀ ty, (Builtin.clear_ #[64] ty #[pv]).run Try.prog w = .ok (.tuple #[]) w1) ∧ Kept (fun k => pv.ownBlock = some k) w w1 ∧ ∃ xs', w1.ownsRow B 71 2 pv n xs' := by
  rcases h.2 with ⟨rfl, h0⟩ | ⟨g, cap, cur, rfl, hB, hg, hc, hm, hs, hx⟩
  · exact ⟨w, fun ty => by simp [Builtin.clear_, run_underlying Try.underlying64], .refl _ _, xs, h⟩
  · cases n with
    | zero => exact ⟨w, fun ty => by simp [Builtin.clear_, run_underlying Try.underlying64], .refl _ _, xs, h⟩
    | succ n =>
      have hlen : ((Builtin.zeroCells wz (n + 1)).toList).length = (n + 1) * 2 := by rw [Array.length_toList, size_zeroCells]; rfl
      have hst := Go.run_storeCells_at Try.prog g 0 71 (Builtin.zeroCells wz (n + 1)).toList 0 cur w hg (by rw [hlen, hs]; omega) (zero_one _)
      have hk := (Kept.refl (fun k => (Value.slice (some ⟨g, 0, none⟩) (n + 1) cap).ownBlock = some k) w).setRow (g := g) (.inl rfl) (cur.toList.take (0 + 0) ++ (Builtin.zeroCells wz (n + 1)).toList ++ cur.toList.drop (0 + 0 + (Builtin.zeroCells wz (n + 1)).toList.length)).toArray
      simp only [Nat.zero_add, Nat.add_zero] at hst hk
      obtain ⟨D, hD⟩ : ∃ D, D = (cur.toList.take 0 ++ (Builtin.zeroCells wz (n + 1)).toList ++ cur.toList.drop (Builtin.zeroCells wz (n + 1)).toList.length).toArray := ⟨_, rfl⟩
      rw [← hD] at hst hk
      have hDs : D.size = cap * 2 := by
        rw [hD, List.size_toArray, List.take_zero, List.nil_append, List.length_append, List.length_drop, hlen, Array.length_toList]; omega
      have hv := Try.zeroValue71
      have hz : (Value.agg #[.int .i64 0, .string ⟨#[]⟩]).cells = wz := rfl
      refine ⟨w.setRow g D, fun ty => ?_, hk, D.toList.take ((n + 1) * 2), by rw [List.length_take, Array.length_toList, hDs]; omega, .inr ⟨g, cap, D, rfl, hB, setRow_heap w g cur D _ (0, 0) hg, hc, hm, hDs, rfl⟩⟩
      simp [Builtin.clear_, run_underlying Try.underlying64, hv, hz, hst]
set_option maxRecDepth 100000 in
set_option maxHeartbeats 4000000 in
theorem forget_any (g n B : Nat) (l0 l1 x y pv : Value) (xs : List Value) (w : World) (hr : Row w g 66 #[l0, l1, x, y, pv]) (ho : w.ownsRow B 71 2 pv n xs) :
    Calls Try.prog 38 #[.pointer (some ⟨g, 0, none⟩)] w fun e w' => e = .returned (.tuple #[]) ∧ ∃ pv', Row w' g 66 #[l0, l1, x, y, pv'] ∧ w'.ownsRow B 71 2 pv' 0 [] ∧ Kept (fun k => k = g ∨ pv.ownBlock = some k) w w' ∧ pv'.ownBlock = pv.ownBlock := by
  obtain ⟨w1, hcl, hk, xs', ho'⟩ := run_clear_own ho
  have hne := own_ne hr ho (by decide)
  have hr1 : Row w1 g 66 #[l0, l1, x, y, pv] := hr.kept hk hne
  have c4 := hr.at (i := 4) rfl
  have d4 := hr1.at (i := 4) rfl
  have f4 := hr1.free 4
  have hk2 : Kept (fun k => k = g ∨ pv.ownBlock = some k) w w1 := hk.more (fun i hi => .inl (.inr hi))
  have fin : ∀ pv' : Value, w1.ownsRow B 71 2 pv' 0 [] → pv'.ownBlock = pv.ownBlock → Row (w1.setCell ⟨g, 4, none⟩ pv') g 66 #[l0, l1, x, y, pv'] ∧ (w1.setCell ⟨g, 4, none⟩ pv').ownsRow B 71 2 pv' 0 [] ∧ Kept (fun k => k = g ∨ pv.ownBlock = some k) w (w1.setCell ⟨g, 4, none⟩ pv') ∧ pv'.ownBlock = pv.ownBlock := fun pv' h1 h2 =>
    ⟨hr1.stored 4 _, own_kept h1 ((Kept.refl (fun k => k = g) w1).setCell (p := ⟨g, 4, none⟩) (.inl rfl) _) (fun j hj e => hne (by rw [← h2, hj, e])), hk2.setCell (p := ⟨g, 4, none⟩) (.inl (.inl rfl)) _, h2⟩
  have FIN := Lib.hid fin
  rcases ho'.2 with ⟨rfl, rfl⟩ | ⟨h, cap, cur, rfl, hB, hg, hc, hm, hs, hx⟩
  · have F := FIN.out (.slice none 0 0) (World.ownsRow_nil _ _ _ _) rfl
    have F' := Lib.hid F
    clear fin F FIN ho ho' hr hr1 hk hk2 hne
    go_enter Try.func38, Try.ntmps38
    go_wp2
    go_end0
    exact ⟨rfl, _, F'.out.1, F'.out.2.1, F'.out.2.2.1, rfl⟩
  · have F := FIN.out (.slice (some ⟨h, 0, none⟩) 0 cap) ⟨rfl, .inr ⟨h, cap, cur, rfl, hB, hg, Nat.zero_le _, hm, hs, by simp⟩⟩ rfl
    have F' := Lib.hid F
    clear fin F FIN ho ho' hr hr1 hk hk2 hne
    go_enter Try.func38, Try.ntmps38
    go_wp2
    go_end0
    exact ⟨rfl, _, F'.out.1, F'.out.2.1, F'.out.2.2.1, rfl⟩
end Go.Proofs.Ytghcffpcblficaa
