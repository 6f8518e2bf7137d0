/- digest.Proof returns the proof of the mathematics' text. -/
import Derived.Test.YtjcamhekhfokhaaDoorRoot
import Derived.Deep.AppendLies
namespace Go.Proofs.YtjcamhekhfokhaaDoor
open Go.RowKit

theorem own_less {w : World} {B B' : Nat} {e : TypeId} {k n : Nat} {v : Value} {xs : List Value} (h : w.ownsRow B e k v n xs) (hB : B' ≤ B) : w.ownsRow B' e k v n xs := by
  refine ⟨h.1, ?_⟩
  rcases h.2 with h0 | ⟨g, cap, cur, hv, hbase, hr⟩
  · exact .inl h0
  · exact .inr ⟨g, cap, cur, hv, Nat.le_trans hB hbase, hr⟩
theorem own_base {w X Y : World} {e : TypeId} {k n : Nat} {v : Value} {xs : List Value} (h : Y.ownsRow X.heap.size e k v n xs) (hb : Below w.heap.size w X) : Y.ownsRow w.heap.size e k v n xs := own_less h hb.size
theorem own_over {X Y : World} {B : Nat} {e : TypeId} {k n : Nat} {v : Value} {xs : List Value} (h : X.ownsRow B e k v n xs) (hb : Below X.heap.size X Y) : Y.ownsRow B e k v n xs := h.kept (grown_of_below hb (Nat.le_refl _)) (Classical.em _)
theorem below_step {w X Y : World} (h : Below w.heap.size w X) (b : Below X.heap.size X Y) : Below w.heap.size w Y := h.trans (b.mono h.size)
/-- The call hands back a slice of its own that holds the strings l. -/
def OwnStrs (w : World) (l : List ByteArray) (e : Ending) (w' : World) : Prop := ∃ v, e = .returned v ∧ w'.ownsRow w.heap.size 9 1 v l.length (l.map Value.string) ∧ Below w.heap.size w w'

theorem ownStrs_nil (w : World) : OwnStrs w [] (.returned (.slice none 0 0)) w := ⟨_, rfl, World.ownsRow_nil _ _ _ _, Below.refl _ _⟩
theorem keep_alloc {w X : World} (h : Below w.heap.size w X) (o : Obj) : Below w.heap.size w (X.alloc o) := h.alloc h.size o
theorem keep_grown {w X Y : World} {k n : Nat} {v : Value} {xs : List Value} {e : TypeId} (h : Below w.heap.size w X) (hg : X.grownBy Y v.ownBlock) (ho : X.ownsRow w.heap.size e k v n xs) : Below w.heap.size w Y := h.grown hg h.size (fun j ej => (ho.lt j ej).1)

set_option maxRecDepth 100000 in
set_option maxHeartbeats 1000000 in
theorem proof_fuel : ∀ (f : Nat) (A : Option Addr) (c : Nat) (xs : List ByteArray) (i : Nat) (w : World), xs.length ≤ f → xs.length ≤ 1000 → xs.length ≤ c → c ≤ 9223372036854775807 → i < xs.length → Tab w → Strs w w.heap.size A xs → (∀ s ∈ xs, s.size ≤ 1000) →
    Calls Tryd.prog 43 #[.slice A xs.length c, .int .i64 i] w (OwnStrs w (proof xs i)) := by
  intro f
  induction f with
  | zero => intro A c xs i w hf h1000 hc hcm hi; omega
  | succ f ih =>
    intro A c xs i w hf h1000 hc hcm hi ht hs hz
    by_cases h1 : xs.length = 1
    · rw [proof_one (by omega)]
      rw [h1]
      clear ih hs hz
      go_enter Tryd.func43, Tryd.ntmps43
      go_wp2
      go_ret
      exact ownStrs_nil w
    · have h2 : 2 ≤ xs.length := by omega
      rcases hs with h | ⟨b, o, rfl, hB, hcell⟩
      · rw [h] at h2; simp at h2
      obtain ⟨i0, hi0, hz0, hz1, hz2⟩ := info_parts string_info
      obtain ⟨n, hn⟩ : ∃ n, n = xs.length := ⟨_, rfl⟩
      obtain ⟨k, hk⟩ : ∃ k, k = half n := ⟨_, rfl⟩
      have k1 : k < n := by rw [hk]; exact half_lt (by omega)
      have k0 : 0 < k := by rw [hk]; exact half_pos n
      have hfirst := fun w => first_any n (by omega) (by omega) w
      rw [← hk] at hfirst
      have lt : (xs.take k).length = k := by simp; omega
      have ld : (xs.drop k).length = n - k := by simp [hn]
      have zt : ∀ s ∈ xs.take k, s.size ≤ 1000 := fun s hs => hz s (List.mem_of_mem_take hs)
      have zd : ∀ s ∈ xs.drop k, s.size ≤ 1000 := fun s hs => hz s (List.mem_of_mem_drop hs)
      have st : Strs w w.heap.size (some ⟨b, o, none⟩) (xs.take k) := strs_take hB hcell k
      have sd : Strs w w.heap.size (some ⟨b, o + k, none⟩) (xs.drop k) := strs_drop hB hcell k
      have rt := fun w' ht' hs' => root_any (some ⟨b, o, none⟩) c k (xs.take k) w' lt.symm (by omega) hcm ht' hs' zt
      have rd := fun w' ht' hs' => root_any (some ⟨b, o + k, none⟩) (c - k) (n - k) (xs.drop k) w' ld.symm (by omega) (by omega) ht' hs' zd
      obtain ⟨Rt, hRt⟩ : ∃ r, r = root (xs.take k) := ⟨_, rfl⟩
      obtain ⟨Rd, hRd⟩ : ∃ r, r = root (xs.drop k) := ⟨_, rfl⟩
      rw [← hRt] at rt
      rw [← hRd] at rd
      have ht' := ht
      have HT := Lib.hid ht; have ST := Lib.hid st; have SD := Lib.hid sd; have HRt := Lib.hid hRt; have HRd := Lib.hid hRd
      have i0' : (0 : Int) ≤ (k : Int) := by omega
      have i1 : (k : Int) ≤ (n : Int) := by omega
      have i2 : (k : Int) ≤ (c : Int) := by omega
      have i3 : (n : Int) ≤ (c : Int) := by omega
      have hcn : n ≤ c := by omega
      have ck : ¬ c = k := by omega
      have hn2 : 2 ≤ n := by omega
      have g1 : ((n : Int) == 1) = false := by rw [beq_eq_false_iff_ne]; omega
      have plt : ∀ j, (proof (xs.take k) j).length ≤ 1000 := fun j => Nat.le_trans (proof_small _ j (by omega)) (by decide)
      have pld : ∀ j, (proof (xs.drop k) j).length ≤ 1000 := fun j => Nat.le_trans (proof_small _ j (by omega)) (by decide)
      by_cases hik : i < k
      · have iht := fun w' (ht' : Tab w') (hs' : Strs w' w'.heap.size (some ⟨b, o, none⟩) (xs.take k)) => ih (some ⟨b, o, none⟩) c (xs.take k) i w' (by omega) (by omega) (by omega) hcm (by omega) ht' hs' zt
        rw [lt] at iht
        have hp : proof xs i = proof (xs.take k) i ++ [Rd] := by rw [proof_split h2, ← hn, ← hk, if_pos hik, hRd]
        have pl := plt i
        obtain ⟨L, hL⟩ : ∃ L, L = proof (xs.take k) i := ⟨_, rfl⟩
        rw [← hL] at iht hp pl
        have HP := Lib.hid hp
        have hik' : (i : Int) < (k : Int) := by omega
        have m1 : L.length + 1 ≤ maxLen := by unfold maxLen; omega
        have m2 : (L.length + 1) * 16 ≤ 140737488355328 := by omega
        rw [← hn]
        clear ht' ht st sd hcell hz ih hk hn lt ld hf hc h2 hp hRt hRd hL plt pld zt zd pl rt
        go_enter Tryd.func43, Tryd.ntmps43
        go_wp2_with (go_at_call 47; refine (hfirst _).mono ?_; rintro e w' ⟨rfl, rfl⟩)
        go_region_held3 (fun w' => Below w.heap.size w w') (first | go_keep | exact (Below.refl _ _).drew | exact Below.trans (by assumption) (Below.mono (by assumption) (Below.size (by assumption))) | exact keep_alloc (by assumption) _ | exact keep_grown (keep_alloc q5 _) hgrow (o5.alloc _))
          (first
            | (go_at_call 43; ((with_reducible refine (iht _ (HT.out.below (by assumption)) ((ST.out.below (by assumption)).more (Below.size (by assumption)))).mono ?_); rintro e w4 ⟨v4, rfl, o4, b4⟩; have o4' := own_base (w := w) o4 (by assumption)))
            | (go_at_call 27; ((with_reducible refine (rd _ (HT.out.below (by assumption)) ((SD.out.below (by assumption)).more (Below.size (by assumption)))).mono ?_); rintro e w5 ⟨rfl, b5⟩; have o5 := own_over o4' b5; have q5 := below_step (w := w) (by assumption) b5))
            | (refine step_append_lies _ (by rfl) _ _ _ (by rfl) w.heap.size 9 i0 _ 1 16 Tryd.underlying26 hi0 hz0 hz1 hz2 rfl (by decide) v4 L.length (L.map Value.string) (by rfl) (o5.alloc _)
                ⟨w5.heap.size, 0, none⟩ 1 1 [.string Rd] (by rfl) (by rfl) (World.news_of_block (cs := #[.string Rd]) (t := 9) (fr := (0, 0)) (heap_alloc_new w5 _)) (by simp [Value.oneCell'])
                (by decide) m1 m2 (keep_alloc q5 _).size (w5.heap.size + 1) (by simp) ?_; intro gg cap w6 hown6 hgrow hat hlt))
        go_wp2
        go_ret
        exact ⟨_, rfl, by rw [HP.out, List.length_append, List.map_append]; exact hown6, by assumption⟩
      · obtain ⟨q, hq⟩ : ∃ q, q = i - k := ⟨_, rfl⟩
        have ihd := fun w' (ht' : Tab w') (hs' : Strs w' w'.heap.size (some ⟨b, o + k, none⟩) (xs.drop k)) => ih (some ⟨b, o + k, none⟩) (c - k) (xs.drop k) q w' (by omega) (by omega) (by omega) (by omega) (by omega) ht' hs' zd
        rw [ld] at ihd
        have hp : proof xs i = proof (xs.drop k) q ++ [Rt] := by rw [proof_split h2, ← hn, ← hk, if_neg hik, hRt, hq]
        have pl := pld q
        obtain ⟨L, hL⟩ : ∃ L, L = proof (xs.drop k) q := ⟨_, rfl⟩
        rw [← hL] at ihd hp pl
        have HP := Lib.hid hp
        have hik' : (k : Int) ≤ (i : Int) := by omega
        have m1 : L.length + 1 ≤ maxLen := by unfold maxLen; omega
        have m2 : (L.length + 1) * 16 ≤ 140737488355328 := by omega
        have wq : IntKind.i64.wrap ((i : Int) - (k : Int)) = (q : Int) := by rw [IntWalk.i64_in _ (by omega)]; omega
        rw [← hn]
        clear ht' ht st sd hcell hz ih hk hn lt ld hf hc h2 hp hRt hRd hL plt pld zt zd pl rd hq
        go_enter Tryd.func43, Tryd.ntmps43
        go_wp2_with (go_at_call 47; refine (hfirst _).mono ?_; rintro e w' ⟨rfl, rfl⟩)
        go_region_held3 (fun w' => Below w.heap.size w w') (first | go_keep | exact (Below.refl _ _).drew | exact Below.trans (by assumption) (Below.mono (by assumption) (Below.size (by assumption))) | exact keep_alloc (by assumption) _ | exact keep_grown (keep_alloc q5 _) hgrow (o5.alloc _))
          (first
            | (go_at_call 43; ((with_reducible refine (ihd _ (HT.out.below (by assumption)) ((SD.out.below (by assumption)).more (Below.size (by assumption)))).mono ?_); rintro e w4 ⟨v4, rfl, o4, b4⟩; have o4' := own_base (w := w) o4 (by assumption)))
            | (go_at_call 27; ((with_reducible refine (rt _ (HT.out.below (by assumption)) ((ST.out.below (by assumption)).more (Below.size (by assumption)))).mono ?_); rintro e w5 ⟨rfl, b5⟩; have o5 := own_over o4' b5; have q5 := below_step (w := w) (by assumption) b5))
            | (refine step_append_lies _ (by rfl) _ _ _ (by rfl) w.heap.size 9 i0 _ 1 16 Tryd.underlying26 hi0 hz0 hz1 hz2 rfl (by decide) v4 L.length (L.map Value.string) (by rfl) (o5.alloc _)
                ⟨w5.heap.size, 0, none⟩ 1 1 [.string Rt] (by rfl) (by rfl) (World.news_of_block (cs := #[.string Rt]) (t := 9) (fr := (0, 0)) (heap_alloc_new w5 _)) (by simp [Value.oneCell'])
                (by decide) m1 m2 (keep_alloc q5 _).size (w5.heap.size + 1) (by simp) ?_; intro gg cap w6 hown6 hgrow hat hlt))
        go_wp2
        go_ret
        exact ⟨_, rfl, by rw [HP.out, List.length_append, List.map_append]; exact hown6, by assumption⟩
theorem proof_any (A : Option Addr) (c n : Nat) (xs : List ByteArray) (i : Nat) (w : World) (hn : n = xs.length) (h1000 : n ≤ 1000) (hc : n ≤ c) (hcm : c ≤ 9223372036854775807) (hi : i < n) (ht : Tab w) (hs : Strs w w.heap.size A xs) (hz : ∀ s ∈ xs, s.size ≤ 1000) :
    Calls Tryd.prog 43 #[.slice A n c, .int .i64 i] w (OwnStrs w (proof xs i)) := by
  subst hn
  exact proof_fuel xs.length A c xs i w (Nat.le_refl _) h1000 hc hcm hi ht hs hz
end Go.Proofs.YtjcamhekhfokhaaDoor
