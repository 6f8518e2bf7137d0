/- Read, Cut, Size, Pending of a disk in memory. -/
import Derived.Test.YtghcffpcblficaaNew
namespace Go.Proofs.Ytghcffpcblficaa
open Go.RowKit Go.Lib

section
variable {W : World} {B : Nat} {h : Dh} {d : Dk}
theorem DiskM.c0 (m : DiskM W B h d) : W.cell? ⟨h.g, 0, none⟩ = some (.bool d.lost) := m.r.at rfl
theorem DiskM.c1 (m : DiskM W B h d) : W.cell? ⟨h.g, 1, none⟩ = some (.int .i64 d.left) := m.r.at rfl
theorem DiskM.c2 (m : DiskM W B h d) : W.cell? ⟨h.g, 2, none⟩ = some (.slice (some ⟨h.a, 0, none⟩) d.dur.length d.dur.length) := m.r.at rfl
theorem DiskM.c3 (m : DiskM W B h d) : W.cell? ⟨h.g, 3, none⟩ = some (.slice (some ⟨h.b, 0, none⟩) d.dur.length d.dur.length) := m.r.at rfl
theorem DiskM.c4 (m : DiskM W B h d) : W.cell? ⟨h.g, 4, none⟩ = some h.pv := m.r.at rfl
theorem DiskM.pvs (m : DiskM W B h d) : ∃ A c, h.pv = .slice A d.pend.length c := by
  rcases m.p.2 with ⟨h1, h2⟩ | ⟨g, cap, _, h1, _⟩
  · exact ⟨none, 0, by rw [h1, h2]⟩
  · exact ⟨_, _, h1⟩
theorem size_any (m : DiskM W B h d) : Calls Try.prog 16 #[.pointer (some ⟨h.g, 0, none⟩)] W fun e w' => e = .returned (.int .i64 d.dur.length) ∧ w' = W := size_cell _ _ _ _ W m.c3
theorem pending_any (m : DiskM W B h d) : Calls Try.prog 17 #[.pointer (some ⟨h.g, 0, none⟩)] W fun e w' => e = .returned (.int .i64 d.pend.length) ∧ w' = W := by
  obtain ⟨A, c, hp⟩ := m.pvs
  exact pending_cell _ _ c A W (by rw [m.c4, hp])
end
/-- What holds of the string of bytes that a slice of a content gives. -/
theorem conv_bytes {W : World} {b o k cap : Nat} {t : TypeId} {l : List UInt8} (hr : Row W b t (byteCells l).toArray) (hk : o + k ≤ l.length) (src : TypeId) (hu : Try.prog.underlying src = some (.slice 5)) : (convert src 9 (.slice (some ⟨b, o, none⟩) k cap)).run Try.prog W = .ok (.string (strB ((l.drop o).take k))) W := by
  have hl : ((l.drop o).take k).length = k := by rw [List.length_take, List.length_drop]; omega
  have := run_convert_bytes_arg (P := Try.prog) W src 5 hu Try.underlying5 b o k cap (((l.drop o).take k).map fun x => (x.toNat : Int)) (by rw [List.length_map, hl]) (fun i hi => by
    have hi2 : i < ((l.drop o).take k).length := by omega
    rw [hr.at (i := o + i) (v := .int .u8 ((((l.drop o).take k)[i]'hi2).toNat : Int)) (by
      rw [List.getElem?_toArray]
      have : o + i < l.length := by omega
      simp [byteCells, this])]
    rw [List.getD_eq_getElem?_getD, List.getElem?_map, List.getElem?_eq_getElem hi2]
    rfl) 9 Try.underlying9
  rw [this]
  congr 1
  simp only [strB, strOfNums, Value.string.injEq, ByteArray.mk.injEq, List.map_map]
  congr 1
  rw [List.map_congr_left (g := id) (fun x _ => by simp)]
  simp
theorem conv_none (W : World) (A : Option Addr) (cap : Nat) (src : TypeId) (hu : Try.prog.underlying src = some (.slice 5)) (hA : ∀ a, A = some a → ∃ b o, a = ⟨b, o, none⟩) : (convert src 9 (.slice A 0 cap)).run Try.prog W = .ok (.string ⟨#[]⟩) W := by
  cases A with
  | none => exact run_convert_bytes_nil (P := Try.prog) W src 5 hu Try.underlying5 0 cap 9 Try.underlying9
  | some a =>
    obtain ⟨b, o, rfl⟩ := hA a rfl
    exact run_convert_bytes_arg (P := Try.prog) W src 5 hu Try.underlying5 b o 0 cap [] rfl (fun i hi => by omega) 9 Try.underlying9
theorem read_nil (o k : Int) (w : World) : Calls Try.prog 14 #[.pointer none, .int .i64 o, .int .i64 k] w fun e w' => e = .returned (.tuple #[.string ⟨#[]⟩, .int .i64 1]) ∧ w' = w := by
  have hc := ready_nil
  go_enter Try.func14, Try.ntmps14
  go_wp2_with (go_at_call 28; (with_reducible refine (hc _).mono ?_); rintro e w1 ⟨rfl, rfl⟩)
  go_ret2
  exact ⟨rfl, rfl⟩
set_option maxRecDepth 100000 in
set_option maxHeartbeats 8000000 in
theorem read_any {W : World} {B : Nat} {h : Dh} {d : Dk} (m : DiskM W B h d) (o k : Int) (o1 : -9223372036854775808 ≤ o) (o2 : o ≤ 9223372036854775807) :
    Calls Try.prog 14 #[.pointer (some ⟨h.g, 0, none⟩), .int .i64 o, .int .i64 k] W fun e w' => e = .returned (.tuple #[.string (readS d o k), .int .i64 (readE d o k)]) ∧ w' = W := by
  have c0 := m.c0
  have c3 := m.c3
  have hvl := m.ok.len
  have hsm := m.ok.small
  have hbr := m.b
  obtain ⟨g, a, b, pv⟩ := h
  dsimp only at c0 c3 hbr ⊢
  cases hl : d.lost with
  | true =>
    rw [hl] at c0
    have hE : readE d o k = 91 := by unfold readE; rw [hl]; rfl
    have hS : readS d o k = ⟨#[]⟩ := by unfold readS; rw [hE]; rfl
    rw [hE, hS]
    clear hE hS
    have hc := ready_yes g W c0
    have HC := Lib.hid hc
    clear hc m hbr
    go_enter Try.func14, Try.ntmps14
    go_wp2_with (go_at_call 28; (with_reducible refine (HC.out).mono ?_); rintro e w1 ⟨rfl, rfl⟩)
    go_ret2
    exact ⟨rfl, rfl⟩
  | false =>
    rw [hl] at c0
    have hc := ready_no g W c0
    obtain ⟨N, hN⟩ : ∃ N, N = d.dur.length := ⟨_, rfl⟩
    rw [← hN] at c3 hvl hsm
    have hh := has_any (some ⟨b, 0, none⟩) N N o k (by omega) o1 o2 W
    have HC := Lib.hid hc; have HH := Lib.hid hh; have HN := Lib.hid hN; have HBR := Lib.hid hbr
    cases hb : hasB N o k with
    | false =>
      rw [hb] at HH
      have hE : readE d o k = 90 := by unfold readE; rw [hl, ← hN, hb]; rfl
      have hS : readS d o k = ⟨#[]⟩ := by unfold readS; rw [hE]; rfl
      rw [hE, hS]
      clear hE hS
      clear hc hh hN m hbr
      go_enter Try.func14, Try.ntmps14
      go_wp2_with first | (go_at_call 28; (with_reducible refine (HC.out).mono ?_); rintro e w1 ⟨rfl, rfl⟩) | (go_at_call 29; (with_reducible refine (HH.out).mono ?_); rintro e w1 ⟨rfl, rfl⟩)
      go_ret2
      exact ⟨rfl, rfl⟩
    | true =>
      rw [hb] at HH
      have hE : readE d o k = 0 := by unfold readE; rw [hl, ← hN, hb]; rfl
      have hS : readS d o k = strB ((d.vis.drop o.toNat).take k.toNat) := by unfold readS; rw [hE]; rfl
      rw [hE, hS]
      clear hE hS
      obtain ⟨h1, h2, h3⟩ := hasB_iff.1 hb
      obtain ⟨oi, rfl⟩ : ∃ x : Nat, o = x := ⟨o.toNat, by omega⟩
      obtain ⟨ki, rfl⟩ : ∃ x : Nat, k = x := ⟨k.toNat, by omega⟩
      simp only [Int.toNat_natCast]
      have hok : oi + ki ≤ N := by omega
      have u61 : Try.prog.underlying 61 = some (.slice 5) := Try.underlying61
      clear hc hh hN m hbr hb h1 h2 h3 o1 o2
      rcases Nat.eq_zero_or_pos ki with rfl | hk0
      · have hcv := fun (A : Addr) (c : Nat) (hA : A.spot = none) => conv_none W (some A) c 61 u61 (fun a ha => ⟨a.block, a.off, by cases ha; cases A; cases hA; rfl⟩)
        have e1 := hcv ⟨b, 0, none⟩ 0 rfl
        have e2 := hcv ⟨b, oi, none⟩ (N - oi) rfl
        have hS : strB (List.take 0 (d.vis.drop oi)) = ⟨#[]⟩ := rfl
        have hoi : oi ≤ N := by omega
        rw [show ((0 : Nat) : Int) = 0 from rfl] at HH ⊢
        have key : ∀ P : Prop, (N = oi → P) → (¬ N = oi → P) → P := fun P p1 p2 => (Classical.em _).elim p1 p2
        clear hcv u61
        refine key _ (fun hno => ?_) (fun hno => ?_)
        · subst hno
          go_enter Try.func14, Try.ntmps14
          go_wp2_with first | (go_at_call 28; (with_reducible refine (HC.out).mono ?_); rintro e w1 ⟨rfl, rfl⟩) | (go_at_call 29; (with_reducible refine (HH.out).mono ?_); rintro e w1 ⟨rfl, rfl⟩)
          go_ret2
          exact ⟨rfl, rfl⟩
        · go_enter Try.func14, Try.ntmps14
          go_wp2_with first | (go_at_call 28; (with_reducible refine (HC.out).mono ?_); rintro e w1 ⟨rfl, rfl⟩) | (go_at_call 29; (with_reducible refine (HH.out).mono ?_); rintro e w1 ⟨rfl, rfl⟩)
          go_ret2
          exact ⟨rfl, rfl⟩
      · have hcv := conv_bytes (cap := N - oi) HBR.out (o := oi) (k := ki) (by rw [hvl]; omega) 61 u61
        obtain ⟨S, hS⟩ : ∃ S, S = strB (List.take ki (d.vis.drop oi)) := ⟨_, rfl⟩
        rw [← hS] at hcv ⊢
        have hno : ¬ N = oi := by omega
        have hlt : oi < N := by omega
        clear hS u61
        go_enter Try.func14, Try.ntmps14
        go_wp2_with first | (go_at_call 28; (with_reducible refine (HC.out).mono ?_); rintro e w1 ⟨rfl, rfl⟩) | (go_at_call 29; (with_reducible refine (HH.out).mono ?_); rintro e w1 ⟨rfl, rfl⟩)
        go_ret2
        exact ⟨rfl, rfl⟩
end Go.Proofs.Ytghcffpcblficaa
