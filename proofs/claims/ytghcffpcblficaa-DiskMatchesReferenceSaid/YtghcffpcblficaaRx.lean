/- The reference: Cut, Sync, Write. -/
import Derived.Test.YtghcffpcblficaaRw
namespace Go.Proofs.Ytghcffpcblficaa
open Go.RowKit Go.Lib

section
variable {W Y : World} {B : Nat} {h : Rh} {d : Dk}
theorem kept_box (W : World) (h : Rh) (i : Nat) (u : Value) : Kept h.has W (W.setCell ⟨h.g, i, none⟩ u) := (Kept.refl _ W).setCell (p := ⟨h.g, i, none⟩) (.inl (.inl rfl)) _
theorem RefM.frz (m : RefM W B h d) (i : Nat) : W.frozen? ⟨h.g, i, none⟩ = false := m.r.free i
end
set_option maxRecDepth 100000 in
set_option maxHeartbeats 4000000 in
theorem rcut_any {W : World} {B : Nat} {h : Rh} {d : Dk} (m : RefM W B h d) (n : Int) (hn : n ≤ 9223372036854775807) :
    Calls Try.prog 32 #[.pointer (some ⟨h.g, 0, none⟩), .int .i64 n] W fun e w' => e = .returned (.int .i64 (cutE d n)) ∧ TurnedR W w' B h (cutD d n) := by
  have c2 := m.c2
  have c3 := m.c3
  have f2 := m.frz 2
  have f3 := m.frz 3
  cases hl : d.lost with
  | true =>
    rw [hl] at c2
    have hE : cutE d n = 91 := by unfold cutE; rw [hl]; rfl
    have hD : cutD d n = d := by unfold cutD; rw [hE]; rfl
    rw [hE, hD]
    have T := Lib.hid (TurnedR.still m)
    clear hE hD m
    go_enter Try.func32, Try.ntmps32
    go_wp2
    go_ret
    exact ⟨rfl, T.out⟩
  | false =>
    rw [hl] at c2
    by_cases hn0 : n < 0
    · have hE : cutE d n = 2 := by unfold cutE; rw [hl, if_pos hn0]; rfl
      have hD : cutD d n = d := by unfold cutD; rw [hE]; rfl
      rw [hE, hD]
      have T := Lib.hid (TurnedR.still m)
      clear hE hD m
      go_enter Try.func32, Try.ntmps32
      go_wp2
      go_ret
      exact ⟨rfl, T.out⟩
    · have hE : cutE d n = 0 := by unfold cutE; rw [hl, if_neg hn0]; rfl
      have hD : cutD d n = { d with lost := n == 0, left := n.toNat } := by unfold cutD; rw [hE]; rfl
      rw [hE, hD]
      obtain ⟨k, rfl⟩ : ∃ k : Nat, n = k := ⟨n.toNat, by omega⟩
      have m1 := m.put 3 (.int .i64 (k : Int)) (sv := h.sv) (lv := h.lv) (lost := d.lost) (left := k) (dur := d.dur) (vis := d.vis) (pend := d.pend) rfl m.s m.l ⟨m.ok.vis, m.ok.fit, m.ok.small, by show k ≤ _; omega⟩ m.n1 m.n2
      have m2 := m1.put 2 (.bool ((k : Int) == 0)) (sv := h.sv) (lv := h.lv) (lost := (k : Int) == 0) (left := k) (dur := d.dur) (vis := d.vis) (pend := d.pend) rfl m1.s m1.l ⟨m.ok.vis, m.ok.fit, m.ok.small, by show k ≤ _; omega⟩ m.n1 m.n2
      have T : Hid (TurnedR W ((W.setCell ⟨h.g, 3, none⟩ (.int .i64 (k : Int))).setCell ⟨h.g, 2, none⟩ (.bool ((k : Int) == 0))) B h { d with lost := (k : Int) == 0, left := (k : Int).toNat }) :=
        Lib.hid ⟨h.sv, h.lv, m2, (kept_box W h 3 _).trans (kept_box _ h 2 _) (fun i hi => .inl hi), fun _ hk => .inl hk⟩
      clear hE hD m m1 m2 hn0
      go_enter Try.func32, Try.ntmps32
      go_wp2
      go_ret
      exact ⟨rfl, T.out⟩
set_option maxRecDepth 100000 in
set_option maxHeartbeats 4000000 in
theorem rsync_any {W : World} {B : Nat} {h : Rh} {d : Dk} (m : RefM W B h d) (hB : B ≤ W.heap.size) (hp : d.pend.length ≤ 1000) :
    Calls Try.prog 31 #[.pointer (some ⟨h.g, 0, none⟩)] W fun e w' => e = .returned (.int .i64 (readyE d)) ∧ TurnedR W w' B h (syncD d) := by
  have c2 := m.c2
  unfold readyE syncD
  cases hl : d.lost with
  | true =>
    rw [hl] at c2
    have T := Lib.hid (TurnedR.still m)
    clear m
    go_enter Try.func31, Try.ntmps31
    go_wp2
    go_ret
    exact ⟨rfl, T.out⟩
  | false =>
    rw [hl] at c2
    have hvis := rvisible_any m hp
    have hvl := m.ok.len
    have fin : ∀ (w1 : World) (gv vc : Nat), w1.ownsRow W.heap.size 5 1 (.slice (some ⟨gv, 0, none⟩) d.dur.length vc) d.dur.length (byteCells d.vis) → Below W.heap.size W w1 → w1.cell? ⟨h.g, 0, none⟩ = some h.sv ∧ w1.cell? ⟨h.g, 1, none⟩ = some h.lv ∧ w1.frozen? ⟨h.g, 0, none⟩ = false ∧ w1.frozen? ⟨h.g, 1, none⟩ = false ∧ TurnedR W ((w1.setCell ⟨h.g, 0, none⟩ (.slice (some ⟨gv, 0, none⟩) d.dur.length vc)).setCell ⟨h.g, 1, none⟩ (.slice none 0 0)) B h { d with dur := d.vis, pend := [] } := fun w1 gv vc ho hb => by
      have m1 := m.step hb
      have m2 := m1.put 0 (.slice (some ⟨gv, 0, none⟩) d.dur.length vc) (sv := .slice (some ⟨gv, 0, none⟩) d.dur.length vc) (lv := h.lv) (lost := d.lost) (left := d.left) (dur := d.vis) (vis := putAll d.vis d.pend) (pend := d.pend) rfl (by rw [hvl]; exact own_less ho hB) m1.l ⟨rfl, fun p hq => by rw [hvl]; exact m.ok.fit p hq, by show d.vis.length ≤ _; rw [hvl]; exact m.ok.small, m.ok.left⟩ (by rw [hvl]; exact m.n1) (by rw [hvl]; exact m.n2)
      have m3 := m2.put 1 (.slice none 0 0) (sv := .slice (some ⟨gv, 0, none⟩) d.dur.length vc) (lv := .slice none 0 0) (lost := d.lost) (left := d.left) (dur := d.vis) (vis := d.vis) (pend := []) rfl m2.s (World.ownsRow_nil _ _ _ _) ⟨rfl, (fun p hq => by cases hq), by show d.vis.length ≤ _; rw [hvl]; exact m.ok.small, m.ok.left⟩ (by rw [hvl]; exact m.n1) (by rw [hvl]; exact m.n2)
      refine ⟨m1.c0, m1.c1, m1.frz 0, m1.frz 1, ⟨_, _, m3, ((Kept.of_below hb).trans (kept_box w1 h 0 _) (fun i hi => .inl hi)).trans (kept_box _ h 1 _) (fun i hi => .inl hi), fun k hk => ?_⟩⟩
      rcases hk with hk | hk | hk
      · exact .inl (.inl hk)
      · obtain rfl : gv = k := by simpa [Value.ownBlock] using hk
        exact .inr (ho.lt gv rfl).1
      · cases hk
    obtain ⟨N, hN⟩ : ∃ N, N = d.dur.length := ⟨_, rfl⟩
    rw [← hN] at hvis fin
    have HV := Lib.hid hvis; have FIN := Lib.hid fin
    clear hvis fin m hvl hN
    go_enter Try.func31, Try.ntmps31
    go_wp2_with (go_at_call 34; (with_reducible refine (HV.out).mono ?_); rintro e w1 ⟨gv, vc, rfl, ov, bv⟩; obtain ⟨k0, k1, g0, g1, T⟩ := FIN.out w1 gv vc ov bv; have T1 := Lib.hid T; clear ov bv T)
    go_ret
    exact ⟨rfl, by have := T1.out; rw [hl] at this; exact this⟩
end Go.Proofs.Ytghcffpcblficaa
