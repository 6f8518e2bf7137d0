/- Sync, Cut. -/
import Derived.Test.YtghcffpcblficaaRd
namespace Go.Proofs.Ytghcffpcblficaa
open Go.RowKit Go.Lib

section
variable {P : Program} {w : World}
/-- A copy of a whole content. -/
theorem wpList_copy_all {ops : Array Oper} {rest : List Oper} {o : Oper} {a : Act} {Q : Exit → Act → World → Prop} (hgd : o.guard = none) (d x : Operand) (dT sT : TypeId)
    (ho : o.op = .call { callee := .builtin .copy, args := #[d, x], argTypes := #[dT, sT] }) (elem : TypeId) (hu : P.underlying dT = some (.slice elem)) (hs : (P.info? elem).map (·.size) = some 1)
    (g b n c c' : Nat) (hd : a.eval d = .slice (some ⟨g, 0, none⟩) n c) (hx : a.eval x = .slice (some ⟨b, 0, none⟩) n c') (cur new : List UInt8) (t t' : TypeId) (hg : Row w g t (byteCells cur).toArray) (hb : Row w b t' (byteCells new).toArray) (hc : cur.length = n) (hn : new.length = n)
    (h : ∀ w', Hid (Row w' g t (byteCells new).toArray) → Kept (· = g) w w' → wpList P ops Q rest (a.put o.dst (goInt n)) w') : wpList P ops Q (o :: rest) a w := by
  have hl : (byteCells new).length = n := by rw [byteCells_length, hn]
  refine wpList_copy_own hgd d x dT sT ho elem hu hs g 0 n c ⟨b, 0, none⟩ n c' hd hx (byteCells cur).toArray t hg (byteCells new) (by rw [hl]; exact (Nat.min_self n).symm) (fun j v hv => ?_) (by rw [hl]; simp [byteCells, hc]) (bytes_one _) ?_
  · have e0 : (⟨b, 0, none⟩ : Addr).add j = ⟨b, j, none⟩ := by unfold Addr.add; split <;> simp_all
    rw [e0]
    exact hb.at (by rw [List.getElem?_toArray]; exact hv)
  · rw [hl]
    have hrow : ((byteCells cur).toArray.toList.take 0 ++ (byteCells new ++ (byteCells cur).toArray.toList.drop (0 + n))) = byteCells new := by
      rw [List.take_zero, List.nil_append, List.drop_of_length_le (by simp [byteCells, hc]), List.append_nil]
    rw [hrow]
    exact h _ (show Row _ _ _ _ from setRow_heap w g _ _ t (0, 0) hg) ((Kept.refl (fun k => k = g) w).setRow (.inl rfl) _)
end
section
variable {W Y : World} {B : Nat} {h : Dh} {d : Dk}
theorem kept_pwr (W : World) (g : Nat) (lost : Bool) (left : Nat) : Kept (· = g) W (pwr W g lost left) := ((Kept.refl (fun k => k = g) W).setCell (p := ⟨g, 0, none⟩) (.inl rfl) _).setCell (p := ⟨g, 1, none⟩) (.inl rfl) _
theorem DiskM.pwr (m : DiskM W B h d) (lost : Bool) (left : Nat) (hl : left ≤ 9223372036854775807) : DiskM (pwr W h.g lost left) B h { d with lost := lost, left := left } :=
  have k := kept_pwr W h.g lost left
  ⟨pwr_row m.r lost left, m.a.kept k (fun e => m.ga e.symm), m.b.kept k (fun e => m.gb e.symm), own_kept m.p k (fun _ hj e => m.pg (by rw [hj, e])), m.ab, m.Bg, m.Ba, m.Bb, ⟨m.ok.vis, m.ok.fit, m.ok.small, hl⟩⟩
theorem Turned.pwr (m : DiskM W B h d) (lost : Bool) (left : Nat) (hl : left ≤ 9223372036854775807) : Turned W (pwr W h.g lost left) B h { d with lost := lost, left := left } :=
  ⟨h.pv, m.pwr lost left hl, (kept_pwr W h.g lost left).more (fun i hi => .inl (.inl hi)), fun _ hk => .inl hk⟩
end
theorem cut_nil (n : Int) (w : World) : Calls Try.prog 24 #[.pointer none, .int .i64 n] w fun e w' => e = .returned (.int .i64 1) ∧ w' = w := by
  have hc := ready_nil
  go_enter Try.func24, Try.ntmps24
  go_wp2_with (go_at_call 28; (with_reducible refine (hc _).mono ?_); rintro e w1 ⟨rfl, rfl⟩)
  go_ret
  exact ⟨rfl, rfl⟩
theorem sync_nil (w : World) : Calls Try.prog 23 #[.pointer none] w fun e w' => e = .returned (.int .i64 1) ∧ w' = w := by
  have hc := ready_nil
  go_enter Try.func23, Try.ntmps23
  go_wp2_with (go_at_call 28; (with_reducible refine (hc _).mono ?_); rintro e w1 ⟨rfl, rfl⟩)
  go_ret
  exact ⟨rfl, rfl⟩
set_option maxRecDepth 100000 in
set_option maxHeartbeats 4000000 in
theorem cut_any {W : World} {B : Nat} {h : Dh} {d : Dk} (m : DiskM W B h d) (n : Int) (hn : n ≤ 9223372036854775807) :
    Calls Try.prog 24 #[.pointer (some ⟨h.g, 0, none⟩), .int .i64 n] W fun e w' => e = .returned (.int .i64 (cutE d n)) ∧ Turned W w' B h (cutD d n) := by
  have c0 := m.c0
  obtain ⟨g, hg⟩ : ∃ g, g = h.g := ⟨_, rfl⟩
  rw [← hg] at c0 ⊢
  cases hl : d.lost with
  | true =>
    rw [hl] at c0
    have hE : cutE d n = 91 := by unfold cutE; rw [hl]; rfl
    have hD : cutD d n = d := by unfold cutD; rw [hE]; rfl
    rw [hE, hD]
    have hc := ready_yes g W c0
    have HC := Lib.hid hc; have T := Lib.hid (Turned.still m)
    clear hE hD hc m hg
    go_enter Try.func24, Try.ntmps24
    go_wp2_with (go_at_call 28; (with_reducible refine (HC.out).mono ?_); rintro e w1 ⟨rfl, rfl⟩)
    go_ret
    exact ⟨rfl, T.out⟩
  | false =>
    rw [hl] at c0
    have hc := ready_no g W c0
    have HC := Lib.hid hc
    clear hc
    by_cases hn0 : n < 0
    · have hE : cutE d n = 2 := by unfold cutE; rw [hl, if_pos hn0]; rfl
      have hD : cutD d n = d := by unfold cutD; rw [hE]; rfl
      rw [hE, hD]
      have T := Lib.hid (Turned.still m)
      clear hE hD m hg
      go_enter Try.func24, Try.ntmps24
      go_wp2_with (go_at_call 28; (with_reducible refine (HC.out).mono ?_); rintro e w1 ⟨rfl, rfl⟩)
      go_ret
      exact ⟨rfl, T.out⟩
    · have hE : cutE d n = 0 := by unfold cutE; rw [hl, if_neg hn0]; rfl
      have hD : cutD d n = { d with lost := n == 0, left := n.toNat } := by unfold cutD; rw [hE]; rfl
      rw [hE, hD]
      obtain ⟨k, rfl⟩ : ∃ k : Nat, n = k := ⟨n.toNat, by omega⟩
      have T := Lib.hid (Turned.pwr m ((k : Int) == 0) k (by omega))
      have f0 := m.r.free 0
      have f1 := m.r.free 1
      have c1 := m.c1
      rw [← hg] at f0 f1 c1 T
      have hk := cutAfter_any g k (by omega) _ _ W c0 c1 f0 f1
      have HK := Lib.hid hk
      clear hE hD m hg hk c1 f0 f1
      go_enter Try.func24, Try.ntmps24
      go_wp2_with first | (go_at_call 28; (with_reducible refine (HC.out).mono ?_); rintro e w1 ⟨rfl, rfl⟩) | (go_at_call 39; (with_reducible refine (HK.out).mono ?_); rintro e w2 ⟨rfl, rfl⟩)
      go_ret
      exact ⟨rfl, T.out⟩
set_option maxRecDepth 100000 in
set_option maxHeartbeats 4000000 in
theorem sync_any {W : World} {B : Nat} {h : Dh} {d : Dk} (m : DiskM W B h d) :
    Calls Try.prog 23 #[.pointer (some ⟨h.g, 0, none⟩)] W fun e w' => e = .returned (.int .i64 (readyE d)) ∧ Turned W w' B h (syncD d) := by
  have c0 := m.c0
  unfold readyE syncD
  cases hl : d.lost with
  | true =>
    rw [hl] at c0
    have hc := ready_yes h.g W c0
    have HC := Lib.hid hc; have T := Lib.hid (Turned.still m)
    clear hc m
    go_enter Try.func23, Try.ntmps23
    go_wp2_with (go_at_call 28; (with_reducible refine (HC.out).mono ?_); rintro e w1 ⟨rfl, rfl⟩)
    go_ret
    exact ⟨rfl, T.out⟩
  | false =>
    rw [hl] at c0
    have hc := ready_no h.g W c0
    have c2 := m.c2
    have c3 := m.c3
    obtain ⟨g, a, b, pv⟩ := h
    dsimp only at c0 hc c2 c3 ⊢
    obtain ⟨N, hN⟩ : ∃ N, N = d.dur.length := ⟨_, rfl⟩
    have hvl := m.ok.len
    have fgt : ∀ w2 : World, Row w2 a 5 (byteCells d.vis).toArray → Kept (· = a) W w2 → Calls Try.prog 38 #[.pointer (some ⟨g, 0, none⟩)] w2 fun e w' => e = .returned (.tuple #[]) ∧ Turned W w' B ⟨g, a, b, pv⟩ { d with dur := d.vis, pend := [] } := fun w2 hr hk => by
      have r2 := m.r.kept hk m.ga
      refine (forget_any g _ B _ _ _ _ pv _ w2 r2 (own_kept m.p hk (fun _ hj e => m.pa (by rw [hj, e])))).mono fun e w3 ⟨he, pv', q1, q2, q3, q4⟩ => ⟨he, pv', ?_, ?_, fun k hk' => .inl (by rw [← q4]; exact hk')⟩
      · refine ⟨?_, hr.kept q3 (fun e => ?_), (m.b.kept hk (fun e => m.ab e.symm)).kept q3 (fun e => ?_), q2, m.ab, m.Bg, m.Ba, m.Bb, ?_⟩
        · show Row w3 g _ (boxC ⟨g, a, b, pv'⟩ d.vis.length d.lost d.left)
          rw [hvl]; exact q1
        · rcases e with e | e
          · exact m.ga e.symm
          · exact m.pa e
        · rcases e with e | e
          · exact m.gb e.symm
          · exact m.pb e
        · exact ⟨rfl, (fun p hp => by cases hp), by show d.vis.length ≤ _; rw [hvl]; exact m.ok.small, m.ok.left⟩
      · refine (hk.more (fun i hi => .inl (.inr (.inl hi)))).trans q3 (fun i hi => .inl ?_)
        rcases hi with hi | hi
        · exact .inl hi
        · exact .inr (.inr (.inr hi))
    have HA := Lib.hid m.a; have HB := Lib.hid m.b; have FG := Lib.hid fgt; have HC := Lib.hid hc; have HV := Lib.hid hvl; have HN := Lib.hid hN
    rw [← hN] at c2 c3
    have u61 : Try.prog.underlying 61 = some (.slice 5) := Try.underlying61
    clear m fgt hc hvl hN
    go_enter Try.func23, Try.ntmps23
    go_upto_region 4 with (go_at_call 28; (with_reducible refine (HC.out).mono ?_); rintro e w1 ⟨rfl, rfl⟩)
    go_still_tail 8, (by kernel_rfl)
    go_wp2_with first | ((with_reducible show wpList _ _ _ (Oper.mk (some 17) _ _ _ _ _ :: _) _ _); go_loud (refine wpList_copy_all rfl _ _ 61 61 rfl 5 u61 u8_size a b N N N (by rfl) (by rfl) d.dur d.vis 5 5 HA.out HB.out HN.out.symm (by rw [HV.out, HN.out]) ?_); intro w2 hr2 hk2) | (go_at_call 38; go_loud (refine (FG.out _ hr2.out ⟨hk2.os, hk2.tape, hk2.output, hk2.size, hk2.block⟩).mono ?_); rintro e w3 ⟨rfl, t3⟩; have T3 := Lib.hid t3; clear t3)
    go_ret
    exact ⟨rfl, by have := T3.out; rw [hl] at this; exact this⟩
end Go.Proofs.Ytghcffpcblficaa
