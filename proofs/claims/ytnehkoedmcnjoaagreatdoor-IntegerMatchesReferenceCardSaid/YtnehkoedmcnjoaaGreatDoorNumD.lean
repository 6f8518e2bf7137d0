/- text and gcd of numbers. -/
import Derived.Test.YtnehkoedmcnjoaaGreatDoorNumC
import Derived.Deep.LoopGhost
namespace Go.Proofs.YtnehkoedmcnjoaaGreatDoor
open Go.RowKit

theorem dec_neg (z : Int) (h : z < 0) : (⟨#[45]⟩ : ByteArray) ++ str (Lib.decDigits z.natAbs) = dec z := by
  rw [dec, Lib.itoa, if_pos h]
  apply ByteArray.ext
  simp [str]
theorem dec_len (n k : Nat) (h : n < 10 ^ (k + 1)) : (str (Lib.decDigits n)).size ≤ k + 1 := (decDigits_len_le n k).2 h

set_option maxRecDepth 100000 in
set_option maxHeartbeats 4000000 in
theorem ntext_any (z : Int) (A : Option Addr) (L c : Nat) (m : L ≤ 900) (hz : (str (Lib.decDigits z.natAbs)).size ≤ 100000) (w : World) (h : Nt w w.heap.size A L c z.natAbs) (ht : Tab w) :
    Calls Tryz.prog 39 #[.agg #[.bool (decide (z < 0)), .slice A L c]] w fun e w' => e = .returned (.string (dec z)) ∧ Below w.heap.size w w' := by
  obtain ⟨s, hs⟩ : ∃ s, s = decide (z < 0) := ⟨_, rfl⟩
  rw [← hs]
  have hb := below_alloc w (.cells #[.bool s, .slice A L c] 47)
  have cT := text_any A L c z.natAbs m (w.alloc (.cells #[.bool s, .slice A L c] 47)) (h.kept hb) (ht.below hb)
  obtain ⟨S, hS⟩ : ∃ S, S = str (Lib.decDigits z.natAbs) := ⟨_, rfl⟩
  obtain ⟨Z, hZ⟩ : ∃ Z, Z = dec z := ⟨_, rfl⟩
  have hneg : s = true → (⟨#[45]⟩ : ByteArray) ++ S = Z := fun h1 => by rw [hS, hZ]; exact dec_neg z (by rw [hs] at h1; simpa using h1)
  have hpos : s = false → S = Z := fun h1 => by
    rw [hS, hZ, dec, Lib.itoa, if_neg (by rw [hs] at h1; simpa using h1)]
    congr 2
    rw [hs] at h1; simp at h1; omega
  rw [← hS] at cT hz
  rw [← hZ]
  have CT := Lib.hid cT; have HB := Lib.hid hb
  clear cT hb hS hZ hs h ht
  cases s
  · have e := hpos rfl
    subst e
    clear hneg hpos
    go_enter Tryz.func39, Tryz.ntmps39
    go_wp2_with (first
      | (go_at_call 46; (with_reducible refine CT.out.mono ?_); rintro e w3 ⟨rfl, hb3⟩)
      | fail)
    go_ret
    exact ⟨rfl, below_step HB.out hb3⟩
  · have e := hneg rfl
    clear hneg hpos
    go_enter Tryz.func39, Tryz.ntmps39
    go_wp2_with (first
      | (go_at_call 46; (with_reducible refine CT.out.mono ?_); rintro e w3 ⟨rfl, hb3⟩)
      | fail)
    go_ret
    exact ⟨rfl, below_step HB.out hb3⟩

set_option maxRecDepth 100000 in
set_option maxHeartbeats 8000000 in
theorem ngcd_any (s t : Bool) (A1 A2 : Option Addr) (L1 c1 n1 L2 c2 n2 : Nat) (m1 : L1 ≤ 300) (m2 : L2 ≤ 300) (w : World) (h1 : Nt w w.heap.size A1 L1 c1 n1) (h2 : Nt w w.heap.size A2 L2 c2 n2) :
    Calls Tryz.prog 43 #[.agg #[.bool s, .slice A1 L1 c1], .agg #[.bool t, .slice A2 L2 c2]] w fun e w' => ∃ A L c, e = .returned (.agg #[.bool false, .slice A L c]) ∧ Nt w' w'.heap.size A L c (Nat.gcd n1 n2) ∧ Below w.heap.size w w' := by
  have hs := held_start w s A1 L1 c1 t A2 L2 c2
  obtain ⟨G, hG⟩ : ∃ G, G = Nat.gcd n1 n2 := ⟨_, rfl⟩
  rw [← hG]
  have HG := Lib.hid hG
  have k1 := h1.kept hs.1
  have k2 := h2.kept hs.1
  have K1 := Lib.hid k1; have K2 := Lib.hid k2
  clear hG k1 k2 h1 h2
  go_enter Tryz.func43, Tryz.ntmps43
  go_wp2
  go_quiet (fail)
  go_wp2
  generalize (((w.alloc (.cells #[.bool s, .slice A1 L1 c1] 47)).alloc (.cells #[.bool t, .slice A2 L2 c2] 47)).alloc (.cells #[.bool false, .slice none 0 0] 47)) = W0 at hs K1 K2 ⊢
  have HS := Lib.hid hs
  clear hs
  go_loopg [5, 6, 7, 8] n2 (fun kx vx vy _ _ wr => ∃ (X Y : Nat) (Ax : Option Addr) (Lx cx : Nat) (Ay : Option Addr) (Ly cy : Nat), vx = .slice Ax Lx cx ∧ vy = .slice Ay Ly cy ∧ Lx ≤ 300 ∧ Ly ≤ 300 ∧ Y ≤ kx ∧ Nt wr wr.heap.size Ax Lx cx X ∧ Nt wr wr.heap.size Ay Ly cy Y ∧
    Hid (G = Nat.gcd X Y) ∧ Hid (Held w w.heap.size (w.heap.size + 1) (w.heap.size + 1 + 1) s A1 L1 c1 t A2 L2 c2 wr))
  case atStart =>
    exact ⟨n1, n2, A1, L1, c1, A2, L2, c2, rfl, rfl, m1, m2, Nat.le_refl _, K1.out.drawnN _, K2.out.drawnN _, HG, Lib.hid (HS.out.drewN _)⟩
  case round =>
    obtain ⟨X, Y, Ax, Lx, cx, Ay, Ly, cy, rfl, rfl, mx, my, hk, hX, hY, HGG, HH⟩ := hrel
    by_cases h0 : Ly = 0
    · have hY0 : Y = 0 := by rw [← grp_nil]; exact List.eq_nil_of_length_eq_zero (by rw [← hY.len]; exact h0)
      have hg : G = X := by rw [HGG.out, hY0, Nat.gcd_zero_right]
      subst hg
      subst h0
      obtain ⟨_, _, _, _, _, k0, k1, f0, f1, _⟩ := HH.out.all
      have HX := Lib.hid hX
      clear hX hY hk
      go_wp2
      (try simp only [Exit.inBlock, Exit.then])
      refine bodyPost_ret (res_c rfl rfl (Held.row HH.out _ _ _ _)) rfl ?_
      exact ⟨_, _, _, rfl, Held.nt HH.out _ _ _ _ HX.out, (Held.put HH.out _ _ _ _).1⟩
    · have hp : 0 < Y := by
        rcases Nat.eq_zero_or_pos Y with h | h
        · exact absurd (by rw [hY.len, h, grp_zero]; rfl) h0
        · exact h
      have l0 : (0 : Int) < (Ly : Int) := by omega
      have cD := divide_any Ax Ay Lx cx X Ly cy Y mx my hp _ hX hY
      have hYb := nt_lt hY
      have hmod : X % Y < Y := Nat.mod_lt _ hp
      have HG2 : Hid (G = Nat.gcd Y (X % Y)) := by
        have := HGG.out
        rw [Nat.gcd_comm X Y, Nat.gcd_rec, Nat.gcd_comm] at this
        exact this
      have CD := Lib.hid cD; have HM := Lib.hid hmod; have HYb := Lib.hid hYb; have HY := Lib.hid hY; have HP := Lib.hid hp
      clear cD hmod hYb hX hY hp HGG
      go_wp2_with (first
        | (go_at_call 59; (with_reducible refine CD.out.mono ?_); rintro e w3 ⟨Aq, Lq, cq, Ar, Lr, cr, rfl, hq, hr, hb3⟩)
        | fail)
      have hLr : Lr ≤ 300 := Nat.le_trans (nt_50 hr (k := Ly) (Nat.lt_trans HM.out HYb.out)) my
      go_roundg (X % Y)
      case measure => have := HM.out; omega
      case rel => exact ⟨Y, X % Y, Ay, Ly, cy, Ar, Lr, cr, rfl, rfl, my, hLr, Nat.le_refl _, HY.out.kept hb3, hr, HG2, Lib.hid (HH.out.step hb3)⟩
end Go.Proofs.YtnehkoedmcnjoaaGreatDoor
