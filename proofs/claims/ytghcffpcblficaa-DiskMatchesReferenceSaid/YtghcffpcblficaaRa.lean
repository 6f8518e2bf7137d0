/- The reference: apply, has; its disk in memory. -/
import Derived.Test.YtghcffpcblficaaAg
namespace Go.Proofs.Ytghcffpcblficaa
open Go.RowKit Go.Lib

theorem bytes_set_list (l : List UInt8) (i : Nat) (x : UInt8) : (byteCells l).set i (.int .u8 (x.toNat : Int)) = byteCells (l.set i x) := by
  simp [byteCells, List.map_set]
set_option maxRecDepth 100000 in
set_option maxHeartbeats 4000000 in
theorem rapply_any (gb n c B : Nat) (cur : List UInt8) (hn : cur.length = n) (h63 : n ≤ 4194304) (off : Nat) (s : ByteArray) (hfit : off + s.size ≤ n) (w : World) (hr : w.ownsRow B 5 1 (.slice (some ⟨gb, 0, none⟩) n c) n (byteCells cur)) :
    Calls Try.prog 44 #[.slice (some ⟨gb, 0, none⟩) n c, .int .i64 off, .string s] w fun e w' => e = .returned (.tuple #[]) ∧ w'.ownsRow B 5 1 (.slice (some ⟨gb, 0, none⟩) n c) n (byteCells (putB cur (off, s))) ∧ Kept (· = gb) w w' := by
  have HR := Lib.hid hr; have HN := Lib.hid hn
  clear hr hn
  go_enter Try.func44, Try.ntmps44
  go_wp2
  go_loopg [6] s.size (fun kx s6 wr => ∃ k : Nat, s6 = .int .i64 (k : Int) ∧ k + kx = s.size ∧ wr.ownsRow B 5 1 (.slice (some ⟨gb, 0, none⟩) n c) n (byteCells (splice cur off ((bts s).take k))) ∧ Kept (· = gb) w wr)
  case atStart => exact ⟨0, rfl, by omega, by simpa [splice] using HR.out, .refl _ _⟩
  case round =>
    clear HR
    obtain ⟨k, rfl, hk, hM, hK⟩ := hrel
    have hbl : (bts s).length = s.size := bts_len s
    by_cases hlt : k < s.size
    · have hkb : k < (bts s).length := by omega
      have hlen : (splice cur off ((bts s).take k)).length = n := by rw [splice_len (by rw [hbl, HN.out]; exact hfit), HN.out]
      have hst := splice_step (cur := cur) (off := off) (s := bts s) (k := k) (by rw [hbl, HN.out]; exact hfit) hkb
      have hx : (bts s)[k]'hkb = s[k]'hlt := rfl
      have c0 := hM.cellAt (off + k) (by omega)
      rw [List.getElem?_eq_getElem (show off + k < (byteCells (splice cur off ((bts s).take k))).length by rw [byteCells_length]; omega)] at c0
      have f0 := hM.frozenAt (off + k)
      have nx : (wr.setCell ⟨gb, off + k, none⟩ (.int .u8 ((s[k]'hlt).toNat : Int))).ownsRow B 5 1 (.slice (some ⟨gb, 0, none⟩) n c) n (byteCells (splice cur off ((bts s).take (k + 1)))) := by
        rw [← hst, ← bytes_set_list]
        exact (hM.stored (off + k) _).1
      have nk : Kept (· = gb) w (wr.setCell ⟨gb, off + k, none⟩ (.int .u8 ((s[k]'hlt).toNat : Int))) := hK.setCell (p := ⟨gb, off + k, none⟩) (.inl rfl) _
      generalize (byteCells (splice cur off ((bts s).take k)))[off + k]'_ = z at c0
      have NX := Lib.hid nx; have NK := Lib.hid nk
      have hb : (s[k]'hlt).toNat < 256 := (s[k]'hlt).toNat_lt
      clear hst hM hK nx nk hx hlen hbl hkb
      go_wp2
      go_roundg (s.size - (k + 1))
      case measure => omega
      case rel => exact ⟨k + 1, by go_num, by omega, NX.out, NK.out⟩
    · obtain rfl : k = s.size := by omega
      have hall : (bts s).take s.size = bts s := List.take_of_length_le (by rw [hbl]; exact Nat.le_refl _)
      rw [hall] at hM
      have MM := Lib.hid hM
      clear hM hall hbl
      go_wp2
      go_end0
      exact ⟨rfl, MM.out, hK⟩
set_option maxRecDepth 100000 in
set_option maxHeartbeats 4000000 in
theorem rhas_any (A : Option Addr) (kc : Nat) (keep : List Int) (x : Int) (hkl : keep.length ≤ 9223372036854775807) (w : World) (hk : Nums w w.heap.size A keep) :
    Calls Try.prog 43 #[.slice A keep.length kc, .int .i64 x] w fun e w' => e = .returned (.bool (decide (x ∈ keep))) ∧ w' = w := by
  obtain ⟨K, hK⟩ : ∃ K, K = keep.length := ⟨_, rfl⟩
  rw [← hK] at hkl ⊢
  have HK := Lib.hid hk; have HKK := Lib.hid hK
  clear hk hK
  go_enter Try.func43, Try.ntmps43
  go_wp2
  go_loopg [5] K (fun kx s5 wr => ∃ k : Nat, s5 = .int .i64 (k : Int) ∧ k + kx = K ∧ Hid (¬ x ∈ keep.take k) ∧ w = wr)
  case atStart => exact ⟨0, rfl, by omega, Lib.hid (by simp), rfl⟩
  case round =>
    obtain ⟨k, rfl, hk, hno, rfl⟩ := hrel
    by_cases hlt : k < K
    · obtain ⟨z, hz⟩ : ∃ z, keep[k]? = some z := at_lt (by rw [← HKK.out]; exact hlt)
      obtain ⟨bb, o, rfl, hbb, e0⟩ := HK.out.at hz
      have kLi : (k : Int) < (K : Int) := by omega
      have hmem := List.mem_of_getElem? hz
      by_cases hx : z = x
      · subst hx
        have HY : Hid (decide (z ∈ keep) = true) := Lib.hid (decide_eq_true hmem)
        clear hmem hno
        go_wp2
        go_ret
        exact ⟨by rw [HY.out]; rfl, rfl⟩
      · have hnx : Hid (¬ x ∈ keep.take (k + 1)) := Lib.hid (by
          rw [List.take_add_one, hz]
          intro h
          rcases List.mem_append.1 h with h | h
          · exact hno.out h
          · simp at h; exact hx h.symm)
        have hxb : (z == x) = false := by simpa using hx
        clear hmem hno hx hz
        go_wp2
        go_roundg (K - (k + 1))
        case measure => omega
        case rel => exact ⟨k + 1, by go_num, by omega, hnx, rfl⟩
    · obtain rfl : k = K := by omega
      have hall : keep.take k = keep := List.take_of_length_le (by rw [← HKK.out]; exact Nat.le_refl _)
      have HY : Hid (decide (x ∈ keep) = false) := Lib.hid (decide_eq_false (by have := hno.out; rw [hall] at this; exact this))
      clear hno hall
      go_wp2
      go_ret
      exact ⟨by rw [HY.out]; rfl, rfl⟩
/-- The reference's disk in memory. -/
structure Rh where
  g : Nat
  sv : Value
  lv : Value
def Rh.has (h : Rh) (k : Nat) : Prop := k = h.g ∨ h.sv.ownBlock = some k ∨ h.lv.ownBlock = some k
structure RefM (W : World) (B : Nat) (h : Rh) (d : Dk) : Prop where
  r : Row W h.g 43 #[h.sv, h.lv, .bool d.lost, .int .i64 d.left]
  s : W.ownsRow B 5 1 h.sv d.dur.length (byteCells d.dur)
  l : W.ownsRow B 77 2 h.lv d.pend.length (flW d.pend)
  Bg : B ≤ h.g
  ok : d.Ok
  n1 : 1 ≤ d.dur.length
  n2 : d.dur.length ≤ 400
section
variable {W Y : World} {B : Nat} {h : Rh} {d : Dk}
theorem RefM.sg (m : RefM W B h d) : h.sv.ownBlock ≠ some h.g := own_ne m.r m.s (by decide)
theorem RefM.lg (m : RefM W B h d) : h.lv.ownBlock ≠ some h.g := own_ne m.r m.l (by decide)
theorem RefM.sl (m : RefM W B h d) : ∀ j, h.sv.ownBlock = some j → h.lv.ownBlock ≠ some j := own_own m.s m.l (by decide)
theorem RefM.inside (m : RefM W B h d) {k : Nat} (hk : h.has k) : k < W.heap.size := by
  rcases hk with rfl | hk | hk
  · exact m.r.inside
  · exact (m.s.lt k hk).2
  · exact (m.l.lt k hk).2
theorem RefM.from (m : RefM W B h d) {k : Nat} (hk : h.has k) : B ≤ k := by
  rcases hk with rfl | hk | hk
  · exact m.Bg
  · exact (m.s.lt k hk).1
  · exact (m.l.lt k hk).1
theorem RefM.kept {S : Nat → Prop} (m : RefM W B h d) (k : Kept S W Y) (hS : ∀ i, h.has i → ¬ S i) : RefM Y B h d :=
  ⟨m.r.kept k (hS _ (.inl rfl)), own_kept m.s k (fun j hj => hS j (.inr (.inl hj))), own_kept m.l k (fun j hj => hS j (.inr (.inr hj))), m.Bg, m.ok, m.n1, m.n2⟩
theorem RefM.step (m : RefM W B h d) (b : Below W.heap.size W Y) : RefM Y B h d := m.kept (S := fun _ => False) (.of_below b) (fun _ _ h => h)
theorem RefM.less {B' : Nat} (m : RefM W B h d) (hB : B' ≤ B) : RefM W B' h d := ⟨m.r, own_less m.s hB, own_less m.l hB, Nat.le_trans hB m.Bg, m.ok, m.n1, m.n2⟩
theorem RefM.svf (m : RefM W B h d) : ∃ gs c, h.sv = .slice (some ⟨gs, 0, none⟩) d.dur.length c ∧ gs < W.heap.size := by
  obtain ⟨g, c, h1, _, h2⟩ := m.s.form (by have := m.n1; omega)
  exact ⟨g, c, h1, h2⟩
theorem RefM.lvf (m : RefM W B h d) : ∃ A c, h.lv = .slice A d.pend.length c := by
  rcases m.l.2 with ⟨h1, h2⟩ | ⟨g, cap, _, h1, _⟩
  · exact ⟨none, 0, by rw [h1, h2]⟩
  · exact ⟨_, _, h1⟩
end
def TurnedR (W W' : World) (B : Nat) (h : Rh) (d : Dk) : Prop := ∃ sv lv, RefM W' B ⟨h.g, sv, lv⟩ d ∧ Kept h.has W W' ∧ ∀ k, (⟨h.g, sv, lv⟩ : Rh).has k → h.has k ∨ W.heap.size ≤ k
theorem TurnedR.still {w : World} {B : Nat} {h : Rh} {d : Dk} (m : RefM w B h d) : TurnedR w w B h d := ⟨h.sv, h.lv, m, .refl _ _, fun _ hk => .inl hk⟩
end Go.Proofs.Ytghcffpcblficaa
