/- The reference: New, Visible, Read, Cut, Sync. -/
import Derived.Test.YtghcffpcblficaaRa
namespace Go.Proofs.Ytghcffpcblficaa
open Go.RowKit Go.Lib

def eB (x : UInt8) : List Value := [.int .u8 (x.toNat : Int)]
theorem eB_len (x : UInt8) : (eB x).length = 1 := rfl
theorem eB_one (x : UInt8) : ∀ u ∈ eB x, u.oneCell' = true := by
  intro u hu
  simp only [eB, List.mem_cons, List.not_mem_nil, or_false] at hu
  subst hu; rfl
theorem bytes_G (l : List UInt8) : byteCells l = flG eB l := by
  induction l with
  | nil => rfl
  | cons x l ih => rw [flG_cons, ← ih]; rfl
section
variable {W : World} {B : Nat} {h : Rh} {d : Dk}
theorem RefM.c0 (m : RefM W B h d) : W.cell? ⟨h.g, 0, none⟩ = some h.sv := m.r.at rfl
theorem RefM.c1 (m : RefM W B h d) : W.cell? ⟨h.g, 1, none⟩ = some h.lv := m.r.at rfl
theorem RefM.c2 (m : RefM W B h d) : W.cell? ⟨h.g, 2, none⟩ = some (.bool d.lost) := m.r.at rfl
theorem RefM.c3 (m : RefM W B h d) : W.cell? ⟨h.g, 3, none⟩ = some (.int .i64 d.left) := m.r.at rfl
theorem RefM.pcell (m : RefM W B h d) {A : Option Addr} {c : Nat} (hl : h.lv = .slice A d.pend.length c) : ∀ (i : Nat) (p : Nat × ByteArray), d.pend[i]? = some p → ∃ l, A = some ⟨l, 0, none⟩ ∧ l < W.heap.size ∧ W.cell? ⟨l, i * 2, none⟩ = some (.int .i64 p.1) ∧ W.cell? ⟨l, i * 2 + 1, none⟩ = some (.string p.2) := fun i p hip => by
  have hlt : i < d.pend.length := (List.getElem?_eq_some_iff.1 hip).1
  have hO := m.l
  rw [hl] at hO
  obtain ⟨lg, cap, h5, _, h6⟩ := hO.form (by omega)
  cases h5
  have k := flW_at hip
  exact ⟨lg, rfl, h6, (hO.cellAt _ (by omega)).trans k.1, (hO.cellAt _ (by omega)).trans k.2⟩
end
set_option maxRecDepth 100000 in
set_option maxHeartbeats 8000000 in
theorem rvisible_any {W : World} {B : Nat} {h : Rh} {d : Dk} (m : RefM W B h d) (hp : d.pend.length ≤ 1000) :
    Calls Try.prog 34 #[.pointer (some ⟨h.g, 0, none⟩)] W fun e w' => ∃ gv c, e = .returned (.slice (some ⟨gv, 0, none⟩) d.dur.length c) ∧ w'.ownsRow W.heap.size 5 1 (.slice (some ⟨gv, 0, none⟩) d.dur.length c) d.dur.length (byteCells d.vis) ∧ Below W.heap.size W w' := by
  obtain ⟨gs, sc, hsv, _⟩ := m.svf
  obtain ⟨A, lc, hlv⟩ := m.lvf
  have hpc := m.pcell hlv
  have c0 := m.c0
  have c1 := m.c1
  have hgi := m.r.inside
  rw [hsv] at c0
  rw [hlv] at c1
  have hs := m.s
  rw [hsv, bytes_G] at hs
  have hfit := m.ok.fit
  have hvis := m.ok.vis
  have hn1 := m.n1
  have hn2 := m.n2
  obtain ⟨N, hN⟩ : ∃ N, N = d.dur.length := ⟨_, rfl⟩
  obtain ⟨P, hP⟩ : ∃ P, P = d.pend.length := ⟨_, rfl⟩
  rw [← hN] at c0 hs hn1 hn2 ⊢
  rw [← hP] at c1 hp
  have cel := own_cells (enc := eB) eB_len hN hs
  have e0 := own_e (e := 5) (k := 1) (enc := eB) W W.heap.size (Nat.le_refl _)
  have b0 : Below W.heap.size W (W.alloc (.cells #[] 5)) := below_alloc _ _
  have c0a : (W.alloc (.cells #[] 5)).cell? ⟨h.g, 0, none⟩ = some (.slice (some ⟨gs, 0, none⟩) N sc) := Lib.cell?_alloc_some _ c0
  have CEL := Lib.hid (cel.deep b0); have E0 := Lib.hid e0; have B0 := Lib.hid b0; have HN := Lib.hid hN; have HP := Lib.hid hP; have PC := Lib.hid hpc; have FIT := Lib.hid hfit; have VIS := Lib.hid hvis; have GI := Lib.hid hgi; have C1 := Lib.hid c1
  clear cel e0 b0 hN hP hpc hfit hvis hgi m hs hsv hlv
  go_enter Try.func34, Try.ntmps34
  go_upto_region 2 with (at_builtin; go_loud (refine wpList_append_G (enc := eB) eB_len Try.underlying40 u8_info rfl (by decide) (by decide) rfl _ _ (by rfl) W.heap.size _ 0 [] (by rfl) E0.out _ N sc d.dur (by rfl) HN.out (fun y _ => eB_one y) CEL.out (by omega) (by simp) ?_); intro v1 w1 o1 g1; rw [Nat.zero_add, List.nil_append, ← bytes_G] at o1; obtain ⟨gv, vc, rfl, _, _⟩ := o1.form (by omega); have O1 := Lib.hid o1; have B1 := Lib.hid (B0.out.grown g1 (by simp) (fun j ej => by cases ej; exact Nat.le_refl _)); clear o1 g1)
  try rw [Nat.zero_add]
  clear c0a c0 c1 CEL E0 B0
  go_wp2
  go_loopg [4] P (fun kx s4 wr => ∃ k : Nat, s4 = .int .i64 (k : Int) ∧ k + kx = P ∧ wr.ownsRow W.heap.size 5 1 (.slice (some ⟨gv, 0, none⟩) N vc) N (byteCells (putAll d.dur (d.pend.take k))) ∧ Below W.heap.size W wr)
  case atStart => exact ⟨0, rfl, by omega, O1.out, B1.out⟩
  case round =>
    clear O1 B1
    obtain ⟨k, rfl, hk, hO, hB⟩ := hrel
    have c1 := (hB.cell (p := ⟨h.g, 1, none⟩) GI.out).trans C1.out
    by_cases hlt : k < P
    · obtain ⟨p, hpk⟩ : ∃ p, d.pend[k]? = some p := at_lt (by rw [← HP.out]; exact hlt)
      obtain ⟨lg, rfl, hlg, e0, e1⟩ := PC.out k p hpk
      replace e0 := (hB.cell (p := ⟨lg, k * 2, none⟩) hlg).trans e0
      replace e1 := (hB.cell (p := ⟨lg, k * 2 + 1, none⟩) hlg).trans e1
      have hpf := FIT.out p (List.mem_of_getElem? hpk)
      rw [← HN.out] at hpf
      have hcl : (putAll d.dur (d.pend.take k)).length = N := by
        rw [putAll_len (fun q hq => FIT.out q (List.mem_of_mem_take hq)), ← HN.out]
      have hnx := putAll_take (l := d.dur) hpk
      have kLi : (k : Int) < (P : Int) := by omega
      obtain ⟨off, s⟩ := p
      dsimp only at e0 e1 hpf
      have ap := rapply_any gv N vc W.heap.size _ hcl (by omega) off s hpf wr.drew hO
      have AP := Lib.hid ap; have NX := Lib.hid hnx; have BB := Lib.hid hB; have OB := Lib.hid ((hO.lt gv rfl).1)
      clear ap hnx hcl hO hB hpk
      go_upto_region 5 with (fail)
      go_still_tail 17, (by kernel_rfl)
      go_wp2_with (go_at_call 44; go_loud (refine (AP.out).mono ?_); rintro e w2 ⟨rfl, o2, k2⟩; have O2 := Lib.hid o2; have B2 := Lib.hid (k2.below (w0 := W) (B := W.heap.size) BB.out.drew (fun i hi => by rw [hi]; exact OB.out) BB.out.size); clear o2 k2)
      go_roundg (P - (k + 1))
      case measure => omega
      case rel => exact ⟨k + 1, by go_num, by omega, by rw [NX.out]; exact O2.out, B2.out⟩
    · obtain rfl : k = P := by omega
      have hall : d.pend.take k = d.pend := List.take_of_length_le (by rw [← HP.out]; exact Nat.le_refl _)
      rw [hall, ← VIS.out] at hO
      have OO := Lib.hid hO; have BB := Lib.hid hB
      clear hO hB hall
      go_wp2
      go_ret
      exact ⟨gv, vc, rfl, OO.out, BB.out⟩
end Go.Proofs.Ytghcffpcblficaa
