/- dialtoneref02.block: the state after a block. -/
import Derived.Test.YtjcamhekhfokhaaDoorRefA
namespace Go.Proofs.YtjcamhekhfokhaaDoor
open Go.RowKit

/-- The cells of a state, of a block's bytes, of words. -/
def At8 (w : World) (g : Nat) (s : S8) : Prop := ∀ (i : Nat) (v : Value), (s8A s).toList[i]? = some v → w.cell? ⟨g, i, none⟩ = some v
def AtB (w : World) (g o : Nat) (l : List UInt8) : Prop := ∀ i, i < l.length → w.cell? ⟨g, o + i, none⟩ = some (.int .u8 (byteN l i : Int))
theorem At8.below {w w' : World} {g B : Nat} {s : S8} (h : At8 w g s) (hb : Below B w w') (hg : g < B) : At8 w' g s := fun i v hv => (hb.cell (p := ⟨g, i, none⟩) hg).trans (h i v hv)
theorem AtB.below {w w' : World} {g o B : Nat} {l : List UInt8} (h : AtB w g o l) (hb : Below B w w') (hg : g < B) : AtB w' g o l := fun i hi => (hb.cell (p := ⟨g, o + i, none⟩) hg).trans (h i hi)
theorem At8.own {w : World} {B g cap : Nat} {s : S8} (h : w.ownsRow B 48 1 (.slice (some ⟨g, 0, none⟩) 8 cap) 8 (s8A s).toList) : At8 w g s := fun i v hv => by
  have hi : i < 8 := by
    rcases Nat.lt_or_ge i 8 with hlt | hge
    · exact hlt
    · rw [List.getElem?_eq_none (by simpa [s8A] using hge)] at hv; cases hv
  rw [h.cellAt i (by omega), hv]
theorem At8.made (w : World) (s : S8) : At8 (w.alloc (.cells (s8A s) 48)) w.heap.size s := fun i v hv => (Row.made w _ _).at (by simpa using hv)
def sumL (s r : S8) : List Nat := [add32 s.a r.a, add32 s.b r.b, add32 s.c r.c, add32 s.d r.d, add32 s.e r.e, add32 s.f r.f, add32 s.g r.g, add32 s.h r.h]
theorem sumL_comp (s : S8) (l : List UInt8) : (s8A (comp s l)).toList = wV (sumL s (rounds8 l s 64)) := rfl
theorem sumL_len (s r : S8) : (sumL s r).length = 8 := rfl
theorem sumL_at (s r : S8) (i : Nat) (h : i < 8) : (sumL s r).take (i + 1) = (sumL s r).take i ++ [add32 (s.nth i) (r.nth i)] := by
  match i, h with
  | 0, _ => rfl
  | 1, _ => rfl
  | 2, _ => rfl
  | 3, _ => rfl
  | 4, _ => rfl
  | 5, _ => rfl
  | 6, _ => rfl
  | 7, _ => rfl
theorem s8_at (s : S8) (i : Nat) (h : i < 8) : (s8A s).toList[i]? = some (.int .u32 (s.nth i : Int)) := by
  match i, h with
  | 0, _ => rfl
  | 1, _ => rfl
  | 2, _ => rfl
  | 3, _ => rfl
  | 4, _ => rfl
  | 5, _ => rfl
  | 6, _ => rfl
  | 7, _ => rfl
theorem s8_one (s : S8) : ∀ u ∈ (s8A s).toList, u.oneCell' = true := by
  intro u hu
  simp [s8A] at hu
  rcases hu with rfl | rfl | rfl | rfl | rfl | rfl | rfl | rfl <;> rfl
theorem sched_next (l : List UInt8) (i W : Nat) (h : W = if i < 16 then wordN l i else nextW (sched l i) i) : wV (sched l (i + 1)) = wV (sched l i) ++ [.int .u32 (W : Int)] := by
  rw [sched, wV_add, h]

theorem quiet_firstN {P : Program} {f : FuncId} {args : Array Value} {w : World} {n : Nat} {v : Value} (c : ∀ W : World, Calls P f args W fun e w' => e = .returned v ∧ ∃ m, w' = W.drewN m) :
    Calls P f args (w.drewN n) fun e w' => e = .returned v ∧ ∃ m, w' = w.drewN m := (c _).mono fun _ _ h => ⟨h.1, by obtain ⟨m, hm⟩ := h.2; exact ⟨n + m, by rw [hm, World.drewN_drewN]⟩⟩

theorem kTab_at (j : Nat) (h : j < 64) : (wA kTab)[j]? = some (.int .u32 (kN j : Int)) := by
  have hl : j < kTab.length := h
  rw [wA, List.getElem?_toArray, List.getElem?_map, List.getElem?_eq_getElem hl, kN, List.getD_eq_getElem?_getD, List.getElem?_eq_getElem hl]; rfl

set_option maxRecDepth 100000 in
set_option maxHeartbeats 8000000 in
theorem block_any (s : S8) (hs : s.ok) (l : List UInt8) (hl : l.length = 64) (gh ch gb ob cb : Nat) (w : World) (hgh : gh < w.heap.size) (hgb : gb < w.heap.size) (hh : At8 w gh s) (hb : AtB w gb ob l) (hch : 8 ≤ ch) (hcb : 64 ≤ cb) :
    Calls Tryd.prog 42 #[.slice (some ⟨gh, 0, none⟩) 8 ch, .slice (some ⟨gb, ob, none⟩) 64 cb] w fun e w' => ∃ g c, e = .returned (.slice (some ⟨g, 0, none⟩) 8 c) ∧ 8 ≤ c ∧ g < w'.heap.size ∧ At8 w' g (comp s l) ∧ Below w.heap.size w w' := by
  have HH := Lib.hid hh; have HB := Lib.hid hb; have HL := Lib.hid hl
  have HS : Hid s.ok := hs
  clear hh hb hl hs
  go_enter Tryd.func42, Tryd.ntmps42
  go_wp2
  go_loopw [5, 6] (fun v p wr => ∃ i : Nat, p = .int .i64 i ∧ i ≤ 16 ∧ wr.ownsRow w.heap.size 48 1 v i (wV (sched l i)) ∧ Below w.heap.size w wr) (fun _ p _ => 16 - (intOf p).toNat)
  case atStart => exact ⟨0, rfl, by omega, World.ownsRow_nil _ _ _ _, Below.refl _ _⟩
  case round =>
    obtain ⟨i, rfl, hi, hrow, hbr⟩ := hrel
    by_cases hlt : i < 16
    · have c0 := HB.out (4 * i) (by rw [HL.out]; omega)
      have c1 := HB.out (4 * i + 1) (by rw [HL.out]; omega)
      have c2 := HB.out (4 * i + 2) (by rw [HL.out]; omega)
      have c3 := HB.out (4 * i + 3) (by rw [HL.out]; omega)
      have l0 := byteN_lt l (4 * i)
      have l1 := byteN_lt l (4 * i + 1)
      have l2 := byteN_lt l (4 * i + 2)
      have l3 := byteN_lt l (4 * i + 3)
      obtain ⟨p0, hp0⟩ : ∃ p : Nat, p = 4 * i := ⟨_, rfl⟩
      obtain ⟨p1, hp1⟩ : ∃ p : Nat, p = p0 + 1 := ⟨_, rfl⟩
      obtain ⟨p2, hp2⟩ : ∃ p : Nat, p = p0 + 2 := ⟨_, rfl⟩
      obtain ⟨p3, hp3⟩ : ∃ p : Nat, p = p0 + 3 := ⟨_, rfl⟩
      have e0 : IntKind.i64.wrap (4 * (i : Int)) = (p0 : Int) := by rw [IntWalk.i64_in _ (by omega)]; omega
      have e1 : IntKind.i64.wrap ((p0 : Int) + 1) = (p1 : Int) := by rw [IntWalk.i64_in _ (by omega)]; omega
      have e2 : IntKind.i64.wrap ((p0 : Int) + 2) = (p2 : Int) := by rw [IntWalk.i64_in _ (by omega)]; omega
      have e3 : IntKind.i64.wrap ((p0 : Int) + 3) = (p3 : Int) := by rw [IntWalk.i64_in _ (by omega)]; omega
      have ew := word_bits l i p0 p1 p2 p3 hp0 hp1 hp2 hp3
      rw [← hp0] at c0 c1 c2 c3 l0 l1 l2 l3
      rw [← hp1] at c1 l1
      rw [← hp2] at c2 l2
      rw [← hp3] at c3 l3
      obtain ⟨x0, hx0⟩ : ∃ x, x = byteN l p0 := ⟨_, rfl⟩
      obtain ⟨x1, hx1⟩ : ∃ x, x = byteN l p1 := ⟨_, rfl⟩
      obtain ⟨x2, hx2⟩ : ∃ x, x = byteN l p2 := ⟨_, rfl⟩
      obtain ⟨x3, hx3⟩ : ∃ x, x = byteN l p3 := ⟨_, rfl⟩
      obtain ⟨W, hW⟩ : ∃ W, W = wordN l i := ⟨_, rfl⟩
      rw [← hx0, ← hx1, ← hx2, ← hx3, ← hW] at ew
      rw [← hx0] at c0 l0
      rw [← hx1] at c1 l1
      rw [← hx2] at c2 l2
      rw [← hx3] at c3 l3
      have hnx := sched_next l i W (by rw [if_pos hlt]; exact hW)
      have v0 : IntKind.u32.wrap (x0 : Int) = (x0 : Int) := wrap_u32 (by omega) (by omega)
      have v1 : IntKind.u32.wrap (x1 : Int) = (x1 : Int) := wrap_u32 (by omega) (by omega)
      have v2 : IntKind.u32.wrap (x2 : Int) = (x2 : Int) := wrap_u32 (by omega) (by omega)
      have v3 : IntKind.u32.wrap (x3 : Int) = (x3 : Int) := wrap_u32 (by omega) (by omega)
      have u0 : IntKind.u32.wrap ((x0 : Int) * 16777216) = (x0 : Int) * 16777216 := wrap_u32 (by omega) (by omega)
      have u1 : IntKind.u32.wrap ((x1 : Int) * 65536) = (x1 : Int) * 65536 := wrap_u32 (by omega) (by omega)
      have u2 : IntKind.u32.wrap ((x2 : Int) * 256) = (x2 : Int) * 256 := wrap_u32 (by omega) (by omega)
      have k0 : (p0 : Int) < 64 := by omega
      have n0 : (0 : Int) ≤ (p0 : Int) := by omega
      have k1 : (p1 : Int) < 64 := by omega
      have n1 : (0 : Int) ≤ (p1 : Int) := by omega
      have k2 : (p2 : Int) < 64 := by omega
      have n2 : (0 : Int) ≤ (p2 : Int) := by omega
      have k3 : (p3 : Int) < 64 := by omega
      have n3 : (0 : Int) ≤ (p3 : Int) := by omega
      have keep : ∀ X, Below w.heap.size w X → (Below w.heap.size w X ∧ X.cell? ⟨gb, ob + p0, none⟩ = some (.int .u8 (x0 : Int)) ∧ X.cell? ⟨gb, ob + p1, none⟩ = some (.int .u8 (x1 : Int)) ∧ X.cell? ⟨gb, ob + p2, none⟩ = some (.int .u8 (x2 : Int)) ∧ X.cell? ⟨gb, ob + p3, none⟩ = some (.int .u8 (x3 : Int))) :=
        fun X h => ⟨h, (h.cell (p := ⟨gb, ob + p0, none⟩) hgb).trans c0, (h.cell (p := ⟨gb, ob + p1, none⟩) hgb).trans c1, (h.cell (p := ⟨gb, ob + p2, none⟩) hgb).trans c2, (h.cell (p := ⟨gb, ob + p3, none⟩) hgb).trans c3⟩
      have KEEP := Lib.hid keep; have HNX := Lib.hid hnx; have HR := Lib.hid hrow; have BR := Lib.hid hbr
      clear hp0 hp1 hp2 hp3 hx0 hx1 hx2 hx3 hW hnx keep c0 c1 c2 c3 hrow hbr
      go_wp2
      go_region_held3 (fun X => Below w.heap.size w X ∧ X.cell? ⟨gb, ob + p0, none⟩ = some (.int .u8 (x0 : Int)) ∧ X.cell? ⟨gb, ob + p1, none⟩ = some (.int .u8 (x1 : Int)) ∧ X.cell? ⟨gb, ob + p2, none⟩ = some (.int .u8 (x2 : Int)) ∧ X.cell? ⟨gb, ob + p3, none⟩ = some (.int .u8 (x3 : Int)))
        (first | assumption | exact KEEP.out _ BR.out.drew | exact KEEP.out _ hb6 | exact KEEP.out _ (keep_alloc BR.out _).drew | exact KEEP.out _ (keep_alloc BR.out.drew _))
        (first
          | (refine step_append_word rfl _ _ (by rfl) w.heap.size _ i (wV (sched l i)) (by rfl) ((HR.out.alloc _).drew) _ (W : Int) (by rfl) ((Row.made wr _ _).drawn) (by omega) (Below.size (And.left (by assumption))) ?_; intro g6 c6 w6 hown6 hgrow _; have hb6 := keep_grown (keep_alloc BR.out _).drew hgrow ((HR.out.alloc _).drew))
          | fail)
      go_wp2
      go_roundw
      case rel => exact ⟨i + 1, by go_num, by omega, by rw [HNX.out]; exact hown6, hb6⟩
      case measure => simp [intOf]; omega
    · have hi16 : i = 16 := by omega
      have HR0 := Lib.hid hrow; have BR0 := Lib.hid hbr; have HI16 := Lib.hid hi16
      clear hrow hbr hi16
      go_wp2
      go_loopw [5, 7, 8, 9] (fun v p _ _ wr => ∃ i : Nat, p = .int .i64 i ∧ 16 ≤ i ∧ i ≤ 64 ∧ wr.ownsRow w.heap.size 48 1 v i (wV (sched l i)) ∧ Below w.heap.size w wr) (fun _ p _ _ _ => 64 - (intOf p).toNat)
      case atStart => exact ⟨16, rfl, by omega, by omega, by rw [← HI16.out]; exact HR0.out, BR0.out⟩
      case round =>
        obtain ⟨i, rfl, hi0, hi, hrow, hbr⟩ := hrel
        obtain ⟨g, cap, rfl, hg, _⟩ := own_some hrow (by omega)
        by_cases hlt2 : i < 64
        · obtain ⟨q15, hq15⟩ : ∃ q : Nat, q = i - 15 := ⟨_, rfl⟩
          obtain ⟨q16, hq16⟩ : ∃ q : Nat, q = i - 16 := ⟨_, rfl⟩
          obtain ⟨q2, hq2⟩ : ∃ q : Nat, q = i - 2 := ⟨_, rfl⟩
          obtain ⟨q7, hq7⟩ : ∃ q : Nat, q = i - 7 := ⟨_, rfl⟩
          obtain ⟨x15, hx15⟩ : ∃ x : Nat, x = (sched l i).getD q15 0 := ⟨_, rfl⟩
          obtain ⟨x16, hx16⟩ : ∃ x : Nat, x = (sched l i).getD q16 0 := ⟨_, rfl⟩
          obtain ⟨x2, hx2⟩ : ∃ x : Nat, x = (sched l i).getD q2 0 := ⟨_, rfl⟩
          obtain ⟨x7, hx7⟩ : ∃ x : Nat, x = (sched l i).getD q7 0 := ⟨_, rfl⟩
          have z15 := wV_at (sched l i) q15 (by rw [sched_len]; omega)
          have z16 := wV_at (sched l i) q16 (by rw [sched_len]; omega)
          have z2 := wV_at (sched l i) q2 (by rw [sched_len]; omega)
          have z7 := wV_at (sched l i) q7 (by rw [sched_len]; omega)
          rw [← hx15] at z15
          rw [← hx16] at z16
          rw [← hx2] at z2
          rw [← hx7] at z7
          have c15 := (hrow.cellAt q15 (by omega)).trans z15
          have c16 := (hrow.cellAt q16 (by omega)).trans z16
          have c2 := (hrow.cellAt q2 (by omega)).trans z2
          have c7 := (hrow.cellAt q7 (by omega)).trans z7
          have l15 : x15 < 4294967296 := by rw [hx15]; exact sched_lt l i q15
          have l16 : x16 < 4294967296 := by rw [hx16]; exact sched_lt l i q16
          have l2 : x2 < 4294967296 := by rw [hx2]; exact sched_lt l i q2
          have l7 : x7 < 4294967296 := by rw [hx7]; exact sched_lt l i q7
          have e15 : IntKind.i64.wrap ((i : Int) - 15) = (q15 : Int) := by rw [IntWalk.i64_in _ (by omega)]; omega
          have e16 : IntKind.i64.wrap ((i : Int) - 16) = (q16 : Int) := by rw [IntWalk.i64_in _ (by omega)]; omega
          have e2 : IntKind.i64.wrap ((i : Int) - 2) = (q2 : Int) := by rw [IntWalk.i64_in _ (by omega)]; omega
          have e7 : IntKind.i64.wrap ((i : Int) - 7) = (q7 : Int) := by rw [IntWalk.i64_in _ (by omega)]; omega
          have es0 := sg0_bits x15 l15
          have es1 := sg1_bits x2 l2
          obtain ⟨s0, hs0⟩ : ∃ q, q = sg0 x15 := ⟨_, rfl⟩
          obtain ⟨s1, hs1⟩ : ∃ q, q = sg1 x2 := ⟨_, rfl⟩
          obtain ⟨t1, ht1⟩ : ∃ q, q = add32 x16 s0 := ⟨_, rfl⟩
          obtain ⟨t2, ht2⟩ : ∃ q, q = add32 t1 x7 := ⟨_, rfl⟩
          obtain ⟨W, hW⟩ : ∃ q, q = add32 t2 s1 := ⟨_, rfl⟩
          have a1 := add_wrap x16 s0
          have b1 := add_mod x16 s0
          have a2 := add_wrap t1 x7
          have b2 := add_mod t1 x7
          have a3 := add_wrap t2 s1
          have b3 := add_mod t2 s1
          rw [← hs0] at es0
          rw [← hs1] at es1
          rw [← ht1] at a1 b1
          rw [← ht2] at a2 b2
          rw [← hW] at a3 b3
          have hnx := sched_next l i W (by rw [if_neg (by omega), nextW, ← hq15, ← hq16, ← hq2, ← hq7, ← hx15, ← hx16, ← hx2, ← hx7, ← hs0, ← hs1, ← ht1, ← ht2, ← hW])
          have k15 : (q15 : Int) < (i : Int) := by omega
          have n15 : (0 : Int) ≤ (q15 : Int) := by omega
          have k16 : (q16 : Int) < (i : Int) := by omega
          have n16 : (0 : Int) ≤ (q16 : Int) := by omega
          have k2 : (q2 : Int) < (i : Int) := by omega
          have n2 : (0 : Int) ≤ (q2 : Int) := by omega
          have k7 : (q7 : Int) < (i : Int) := by omega
          have n7 : (0 : Int) ≤ (q7 : Int) := by omega
          have HNX := Lib.hid hnx; have HR := Lib.hid hrow; have BR := Lib.hid hbr; have Z16 := Lib.hid z16; have Z7 := Lib.hid z7
          clear hq15 hq16 hq2 hq7 hx15 hx16 hx2 hx7 hs0 hs1 ht1 ht2 hW hnx hrow hbr z15 z16 z2 z7
          go_wp2
          go_quiet ((first | (go_at_call 57; first | exact quiet_firstN (rotated_any x15 _ l15 (by decide) (by decide)) | exact quiet_moreN (rotated_any x15 _ l15 (by decide) (by decide)))))
          go_wp2
          go_quiet ((first | (go_at_call 57; first | exact quiet_firstN (rotated_any x2 _ l2 (by decide) (by decide)) | exact quiet_moreN (rotated_any x2 _ l2 (by decide) (by decide)))))
          go_wp2
          generalize hwx : (wr.drewN _).drewN _ = wx
          have bx : Below wr.heap.size wr wx := by rw [← hwx]; exact below_drawnN (below_drawnN (Below.refl _ _) _) _
          have RX := Lib.hid (own_over HR.out bx)
          have BX := Lib.hid (below_step BR.out bx)
          have keep : ∀ X : World, X.ownsRow w.heap.size 48 1 (.slice (some ⟨g, 0, none⟩) i cap) i (wV (sched l i)) → Below w.heap.size w X → (Below w.heap.size w X ∧ X.cell? ⟨g, q16, none⟩ = some (.int .u32 (x16 : Int)) ∧ X.cell? ⟨g, q7, none⟩ = some (.int .u32 (x7 : Int))) :=
            fun X hX h => ⟨h, (hX.cellAt q16 (by omega)).trans Z16.out, (hX.cellAt q7 (by omega)).trans Z7.out⟩
          have KEEP := Lib.hid keep
          clear hwx bx keep c15 c2 es0 es1 e15 e2 l15 l2 k15 n15 k2 n2 c16 c7
          go_region_held3 (fun X => Below w.heap.size w X ∧ X.cell? ⟨g, q16, none⟩ = some (.int .u32 (x16 : Int)) ∧ X.cell? ⟨g, q7, none⟩ = some (.int .u32 (x7 : Int)))
            (first | assumption | exact KEEP.out _ RX.out.drew BX.out.drew | exact ⟨hb6, hkp6 _ _ rfl _ _ Z16.out, hkp6 _ _ rfl _ _ Z7.out⟩ | exact KEEP.out _ (RX.out.alloc _).drew (keep_alloc BX.out _).drew | exact KEEP.out _ (RX.out.drew.alloc _) (keep_alloc BX.out.drew _))
            (first
              | (refine step_append_word rfl _ _ (by rfl) w.heap.size _ i (wV (sched l i)) (by rfl) ((RX.out.alloc _).drew) _ (W : Int) (by rfl) ((Row.made wx _ _).drawn) (by omega) (Below.size (And.left (by assumption))) ?_; intro g6 c6 w6 hown6 hgrow hkp6; have hb6 := keep_grown (keep_alloc BX.out _).drew hgrow ((RX.out.alloc _).drew))
              | fail)
          go_wp2
          go_roundw
          case rel => exact ⟨i + 1, by go_num, by omega, by omega, by rw [HNX.out]; exact hown6, hb6⟩
          case measure => simp [intOf]; omega
        · have hi64 : i = 64 := by omega
          have hw : ∀ j, j < 64 → wr.cell? ⟨g, j, none⟩ = some (.int .u32 (schedW l j : Int)) := fun j hj => (hrow.cellAt j (by omega)).trans (by rw [wV_at _ _ (by rw [sched_len]; omega), hi64]; rfl)
          have HW := Lib.hid hw; have BR := Lib.hid hbr
          clear hrow hbr hw hi64
          obtain ⟨i0, hi, hz0, hz1, hz2⟩ := info_parts word_info
          go_wp2_with fail
          refine (consts_any _).mono ?_
          rintro e w1 ⟨rfl, h1⟩
          have a1 : Below wr.heap.size wr w1 := by rw [h1]; exact below_alloc wr _
          have b1 := Lib.hid (below_step BR.out a1)
          have kt1 : ∀ j, j < 64 → w1.cell? ⟨wr.heap.size, j, none⟩ = some (.int .u32 (kN j : Int)) := fun j hj => by
            rw [h1]; exact (Row.made wr _ _).at (kTab_at j hj)
          have hw1 : ∀ j, j < 64 → w1.cell? ⟨g, j, none⟩ = some (.int .u32 (schedW l j : Int)) := fun j hj => (a1.cell (p := ⟨g, j, none⟩) hg).trans (HW.out j hj)
          have HH1 := Lib.hid (HH.out.below b1.out hgh)
          have gk1 : wr.heap.size < w1.heap.size := by rw [h1]; simp
          have gw1 : g < w1.heap.size := by omega
          have KT1 := Lib.hid kt1; have HW1 := Lib.hid hw1
          generalize wr.heap.size = gk at gk1 KT1 ⊢
          have n1 := Lib.hid (World.ownsRow_nil w1 w1.heap.size 48 1)
          clear h1 a1 kt1 hw1 HW BR
          go_wp2_with (at_builtin; refine wpList_append_own _ rfl _ _ 49 rfl w1.heap.size 48 i0 (.int .u32 0) 1 4 Tryd.underlying49 hi hz0 hz1 hz2 rfl (by decide) _ _ _ rfl n1.out ⟨gh, 0, none⟩ 8 ch (s8A s).toList rfl rfl (fun j u hj => by rw [add_head]; exact HH1.out j u hj) (s8_one s) (by unfold maxLen; omega) (by omega) (Nat.le_refl _) ?_; intro v2 w2 hown2 hgrow2 _; obtain ⟨gv, cv, rfl, hgv, hgv2⟩ := own_some hown2 (by decide))
          have b2 := keep_grown (Below.refl _ _) hgrow2 n1.out
          have AV := Lib.hid (At8.own hown2)
          have HH2 := Lib.hid (HH1.out.below b2 (by have := b1.out.size; omega))
          have KT2 := Lib.hid (fun j hj => (b2.cell (p := ⟨gk, j, none⟩) gk1).trans (KT1.out j hj))
          have HW2 := Lib.hid (fun j hj => (b2.cell (p := ⟨g, j, none⟩) gw1).trans (HW1.out j hj))
          have B2 := Lib.hid (below_step b1.out b2)
          have gk2 : gk < w2.heap.size := Nat.lt_of_lt_of_le gk1 b2.size
          have gw2 : g < w2.heap.size := Nat.lt_of_lt_of_le gw1 b2.size
          have gh2 : gh < w2.heap.size := Nat.lt_of_lt_of_le hgh B2.out.size
          have cv8 : 8 ≤ cv := by
            rcases hown2.2 with ⟨hh, _⟩ | ⟨_, _, _, hh, _, _, h8, _⟩
            · cases hh
            · simp only [Value.slice.injEq] at hh
              obtain ⟨_, _, rfl⟩ := hh
              exact h8
          clear hown2 hgrow2 b2 KT1 HW1 HH1 n1 gk1 gw1 b1
          go_loopw [11, 12, 13, 14, 15, 16] (fun v p _ _ _ _ wr => ∃ (i : Nat) (r : S8) (gv cv : Nat), p = .int .i64 i ∧ i ≤ 64 ∧ r = rounds8 l s i ∧ v = .slice (some ⟨gv, 0, none⟩) 8 cv ∧ 8 ≤ cv ∧ gv < wr.heap.size ∧ At8 wr gv r ∧ Below w2.heap.size w2 wr) (fun _ p _ _ _ _ _ => 64 - (intOf p).toNat)
          case atStart => exact ⟨0, s, gv, cv, rfl, by omega, rfl, rfl, cv8, hgv, AV.out, Below.refl _ _⟩
          case round =>
            clear AV hgv
            obtain ⟨i, r, gv, cv, rfl, hi, hr, rfl, hcv, hgv, hat, hbr⟩ := hrel
            have ok : r.ok := by rw [hr]; exact rounds_ok l HS.out i
            by_cases hlt : i < 64
            · have hnext : rnd r (kN i) (schedW l i) = rounds8 l s (i + 1) := by rw [rounds8, ← hr]
              obtain ⟨ra, rb, rc, rd, re, rf, rg, rh⟩ := r
              obtain ⟨la, lb, lc, ld, le, lf, lg, lh⟩ := ok
              dsimp only at la lb lc ld le lf lg lh
              obtain ⟨k, hk⟩ : ∃ k, k = kN i := ⟨_, rfl⟩
              obtain ⟨x, hx⟩ : ∃ x, x = schedW l i := ⟨_, rfl⟩
              have ck := (hbr.cell (p := ⟨gk, i, none⟩) gk2).trans (KT2.out i hlt)
              have cx := (hbr.cell (p := ⟨g, i, none⟩) gw2).trans (HW2.out i hlt)
              rw [← hk] at ck
              rw [← hx] at cx
              have c0 := hat 0 _ rfl
              have c1 := hat 1 _ rfl
              have c2 := hat 2 _ rfl
              have c3 := hat 3 _ rfl
              have c4 := hat 4 _ rfl
              have c5 := hat 5 _ rfl
              have c6 := hat 6 _ rfl
              have c7 := hat 7 _ rfl
              dsimp only at c0 c1 c2 c3 c4 c5 c6 c7
              obtain ⟨p1, hp1⟩ : ∃ q, q = Sg1 re := ⟨_, rfl⟩
              obtain ⟨p2, hp2⟩ : ∃ q, q = choose re rf rg := ⟨_, rfl⟩
              obtain ⟨p3, hp3⟩ : ∃ q, q = Sg0 ra := ⟨_, rfl⟩
              obtain ⟨p4, hp4⟩ : ∃ q, q = major ra rb rc := ⟨_, rfl⟩
              obtain ⟨q1, hq1⟩ : ∃ q, q = add32 rh p1 := ⟨_, rfl⟩
              obtain ⟨q2, hq2⟩ : ∃ q, q = add32 q1 p2 := ⟨_, rfl⟩
              obtain ⟨q3, hq3⟩ : ∃ q, q = add32 q2 k := ⟨_, rfl⟩
              obtain ⟨tt, htt⟩ : ∃ q, q = add32 q3 x := ⟨_, rfl⟩
              obtain ⟨uu, huu⟩ : ∃ q, q = add32 p3 p4 := ⟨_, rfl⟩
              obtain ⟨na, hna⟩ : ∃ q, q = add32 tt uu := ⟨_, rfl⟩
              obtain ⟨ne, hne⟩ : ∃ q, q = add32 rd tt := ⟨_, rfl⟩
              have e1 := Sg1_bits le
              have e2 := choose_bits le lf lg
              have e2' := choose_bits' le lf lg
              have e3 := Sg0_bits la
              have e4 := major_bits la lb lc
              have a1 := add_wrap rh p1
              have b1 := add_mod rh p1
              have a2 := add_wrap q1 p2
              have b2 := add_mod q1 p2
              have a3 := add_wrap q2 k
              have b3 := add_mod q2 k
              have a4 := add_wrap q3 x
              have b4 := add_mod q3 x
              have a5 := add_wrap p3 p4
              have b5 := add_mod p3 p4
              have a6 := add_wrap tt uu
              have b6 := add_mod tt uu
              have a7 := add_wrap rd tt
              have b7 := add_mod rd tt
              rw [← hp1] at e1
              rw [← hp2] at e2 e2'
              rw [← hp3] at e3
              rw [← hp4] at e4
              rw [← hq1] at a1 b1
              rw [← hq2] at a2 b2
              rw [← hq3] at a3 b3
              rw [← htt] at a4 b4
              rw [← huu] at a5 b5
              rw [← hna] at a6 b6
              rw [← hne] at a7 b7
              have hfin : (⟨na, ra, rb, rc, ne, re, rf, rg⟩ : S8) = rounds8 l s (i + 1) := by
                rw [← hnext, hna, hne, huu, htt, hq3, hq2, hq1, hp1, hp2, hp3, hp4, hk, hx]; rfl
              have HF := Lib.hid hfin; have HBR := Lib.hid hbr
              have ki : (i : Int) < 64 := by omega
              have ni : (0 : Int) ≤ (i : Int) := by omega
              clear hfin hr hnext hk hx hp1 hp2 hp3 hp4 hq1 hq2 hq3 htt huu hna hne hat hbr
              go_wp2
              go_quiet ((first | (go_at_call 57; first | exact quiet_firstN (rotated_any re _ le (by decide) (by decide)) | exact quiet_moreN (rotated_any re _ le (by decide) (by decide)))))
              go_wp2
              go_quiet ((first | (go_at_call 57; first | exact quiet_firstN (rotated_any ra _ la (by decide) (by decide)) | exact quiet_moreN (rotated_any ra _ la (by decide) (by decide)))))
              go_wp2
              generalize hwx : (wr.drewN _).drewN _ = wx
              have bx : Below wr.heap.size wr wx := by rw [← hwx]; exact below_drawnN (below_drawnN (Below.refl _ _) _) _
              replace c1 := (bx.cell (p := ⟨gv, 1, none⟩) hgv).trans c1
              replace c2 := (bx.cell (p := ⟨gv, 2, none⟩) hgv).trans c2
              replace c3 := (bx.cell (p := ⟨gv, 3, none⟩) hgv).trans c3
              replace c5 := (bx.cell (p := ⟨gv, 5, none⟩) hgv).trans c5
              replace c6 := (bx.cell (p := ⟨gv, 6, none⟩) hgv).trans c6
              have BX := Lib.hid (below_step HBR.out bx)
              clear hwx bx c0 c4 c7 ck cx e1 e2 e2' e3 e4 a1 a2 a3 a4 a5 b1 b2 b3 b4 b5
              go_still_tail 22, (by kernel_rfl)
              change wpList _ _ _ _ _ wx.drew
              go_wp2
              go_roundw
              case rel => exact ⟨i + 1, _, wx.heap.size, 8, by go_num, by omega, HF.out, rfl, by omega, by simp, At8.made wx.drew ⟨na, ra, rb, rc, ne, re, rf, rg⟩, keep_alloc BX.out.drew _⟩
              case measure => simp [intOf]; omega
            · have hi64 : i = 64 := by omega
              have hfin : (s8A (comp s l)).toList = wV (sumL s r) := by rw [sumL_comp, ← hi64, ← hr]
              have HF := Lib.hid hfin; have HAT := Lib.hid hat; have HBR := Lib.hid hbr
              have HHr := Lib.hid (HH2.out.below hbr gh2)
              have B3 := Lib.hid (below_step B2.out hbr)
              have gh3 : gh < wr.heap.size := Nat.lt_of_lt_of_le gh2 hbr.size
              clear hfin hat hbr hr hi64 HH2 B2 KT2 HW2
              obtain ⟨w4, rfl⟩ : ∃ x, x = wr := ⟨_, rfl⟩
              go_wp2
              go_loopw [17, 18] (fun v p w5 => ∃ j : Nat, p = .int .i64 j ∧ j ≤ 8 ∧ w5.ownsRow w4.heap.size 48 1 v j (wV ((sumL s r).take j)) ∧ Below w4.heap.size w4 w5) (fun _ p _ => 8 - (intOf p).toNat)
              case atStart => exact ⟨0, rfl, by omega, World.ownsRow_nil _ _ _ _, Below.refl _ _⟩
              case round =>
                obtain ⟨j, rfl, hj, hrow, hb5⟩ := hrel
                by_cases hlt8 : j < 8
                · have ca := (hb5.cell (p := ⟨gh, j, none⟩) gh3).trans (HHr.out j _ (s8_at s j hlt8))
                  have cc := (hb5.cell (p := ⟨gv, j, none⟩) hgv).trans (HAT.out j _ (s8_at r j hlt8))
                  have hnx := sumL_at s r j hlt8
                  obtain ⟨x, hx⟩ : ∃ x, x = s.nth j := ⟨_, rfl⟩
                  obtain ⟨y, hy⟩ : ∃ y, y = r.nth j := ⟨_, rfl⟩
                  obtain ⟨W, hW⟩ : ∃ W, W = add32 x y := ⟨_, rfl⟩
                  have a1 := add_wrap x y
                  have b1 := add_mod x y
                  rw [← hx] at ca hnx
                  rw [← hy] at cc hnx
                  rw [← hW] at a1 b1 hnx
                  have keep : ∀ Z, Below w4.heap.size w4 Z → (Below w4.heap.size w4 Z ∧ Z.cell? ⟨gh, j, none⟩ = some (.int .u32 (x : Int)) ∧ Z.cell? ⟨gv, j, none⟩ = some (.int .u32 (y : Int))) :=
                    fun Z h => ⟨h, (h.cell (p := ⟨gh, j, none⟩) gh3).trans ((hb5.cell (p := ⟨gh, j, none⟩) gh3).symm.trans ca), (h.cell (p := ⟨gv, j, none⟩) hgv).trans ((hb5.cell (p := ⟨gv, j, none⟩) hgv).symm.trans cc)⟩
                  have KEEP := Lib.hid keep; have HNX := Lib.hid hnx; have HR := Lib.hid hrow; have BR := Lib.hid hb5
                  have j0 : (0 : Int) ≤ (j : Int) := by omega
                  have j1 : (j : Int) < 8 := by omega
                  clear keep hnx hx hy hW hrow hb5 ca cc
                  go_wp2
                  go_region_held3 (fun Z => Below w4.heap.size w4 Z ∧ Z.cell? ⟨gh, j, none⟩ = some (.int .u32 (x : Int)) ∧ Z.cell? ⟨gv, j, none⟩ = some (.int .u32 (y : Int)))
                    (first | assumption | exact KEEP.out _ BR.out.drew | exact KEEP.out _ hb6 | exact KEEP.out _ (keep_alloc BR.out _).drew | exact KEEP.out _ (keep_alloc BR.out.drew _))
                    (first
                      | (refine step_append_word rfl _ _ (by rfl) w4.heap.size _ j (wV ((sumL s r).take j)) (by rfl) ((HR.out.alloc _).drew) _ (W : Int) (by rfl) ((Row.made wr _ _).drawn) (by omega) (Below.size (And.left (by assumption))) ?_; intro g6 c6 w6 hown6 hgrow _; have hb6 := keep_grown (keep_alloc BR.out _).drew hgrow ((HR.out.alloc _).drew))
                      | fail)
                  go_wp2
                  go_roundw
                  case rel => exact ⟨j + 1, by go_num, by omega, by rw [HNX.out, wV_add]; exact hown6, hb6⟩
                  case measure => simp [intOf]; omega
                · have hj8 : j = 8 := by omega
                  obtain ⟨g6, c6, rfl, hg6, _⟩ := own_some hrow (by omega)
                  have hall : (sumL s r).take j = sumL s r := List.take_of_length_le (by rw [sumL_len]; omega)
                  rw [hall, ← HF.out] at hrow
                  have HR := Lib.hid hrow; have BR := Lib.hid hb5; have HJ := Lib.hid hj8
                  clear hall hrow hb5 hj8
                  go_wp2
                  go_ret
                  obtain rfl := HJ.out
                  refine ⟨g6, c6, rfl, ?_, hg6, At8.own HR.out, below_step B3.out BR.out⟩
                  rcases HR.out.2 with ⟨hh, _⟩ | ⟨_, _, _, hh, _, _, h8, _⟩
                  · cases hh
                  · simp only [Value.slice.injEq] at hh
                    obtain ⟨_, _, rfl⟩ := hh
                    exact h8
end Go.Proofs.YtjcamhekhfokhaaDoor
