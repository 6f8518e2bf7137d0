/- How the laws begin: rules and a question that integers determine. -/
import Derived.Test.YtiglkecmamnphaaMk
import Derived.Test.YtiglkecmamnphaaAg
namespace Go.Proofs.Ytiglkecmamnphaa
open Go.RowKit Go.Sort Go.Lib

abbrev bkA (A : Option Addr) (n c : Nat) (A2 : Option Addr) (n2 c2 : Nat) (A3 : Option Addr) (n3 c3 : Nat) : Value := .agg #[.slice A n c, .slice A2 n2 c2, .slice A3 n3 c3]
theorem made_bk (C : List Six) (CA : Option Addr) (cc : Nat) (R : List Tri) (RA : Option Addr) (rc : Nat) (F : List Six) (FA : Option Addr) (fc : Nat) (hC : ∀ y ∈ C, In6 y) (hR : ∀ y ∈ R, In3 y) (hF : ∀ y ∈ F, In6 y) (lC : C.length ≤ 9223372036854775807) (lR : R.length ≤ 9223372036854775807) (lF : F.length ≤ 9223372036854775807) (w : World)
    (wC : Cells w w.heap.size CA 6 (C.map fun y => (sixL y).toArray)) (wR : Cells w w.heap.size RA 3 (R.map fun y => (triL y).toArray)) (wF : Cells w w.heap.size FA 6 (F.map fun y => (sixL y).toArray)) (W : World) (hb : Below w.heap.size w W) :
    Calls Try.prog 10 #[bkA CA C.length cc RA R.length rc FA F.length fc] W fun e w' => ∃ A c A2 c2 A3 c3, e = .returned (bkA A (madeB C R F).cls.length c A2 (madeB C R F).rpl.length c2 A3 (madeB C R F).fct.length c3) ∧ BkV w' w'.heap.size (.slice A (madeB C R F).cls.length c) (.slice A2 (madeB C R F).rpl.length c2) (.slice A3 (madeB C R F).fct.length c3) (madeB C R F) ∧ Below W.heap.size W w' :=
  (made_any C CA cc R RA rc F FA fc hC hR hF lC lR lF W ((wC.below hb).more hb.size) ((wR.below hb).more hb.size) ((wF.below hb).more hb.size)).mono fun e w' ⟨cv, rv, fv, cs, he, ho, hc, hbb⟩ => by
    have hl := made_len C R F
    have hv := made_valid C R F
    have hcl : cs.length = (madeB C R F).cls.length := by rw [← hc, List.length_map]
    have ec : (⟨cs.map (·.1), (madeB C R F).rpl, (madeB C R F).fct⟩ : Bk) = madeB C R F := by rw [hc]
    have hbk := ho.bkv (by show _ ≤ 9223372036854775807; omega) (by show _ ≤ 9223372036854775807; omega) (by show _ ≤ 9223372036854775807; omega) (fun p hp => by
      have hp' : p.1 ∈ (madeB C R F).cls := by rw [← hc]; exact List.mem_map.2 ⟨p, hp, rfl⟩
      obtain ⟨y, _, hy⟩ := List.mem_map.1 hp'
      have := (clsI_ok y).2
      rw [← hy]
      exact ⟨by show _ ≤ 9223372036854775807; omega, by show _ ≤ 9223372036854775807; omega⟩)
    rw [ec] at hbk
    obtain ⟨A, c, rfl, _, _⟩ := hbk.1
    obtain ⟨A2, c2, h2, _, _⟩ := hbk.2.1
    obtain ⟨A3, c3, h3, _, _⟩ := hbk.2.2
    rw [List.length_map] at h2 h3
    subst h2 h3
    exact ⟨A, c, A2, c2, A3, c3, he, hbk, hbb⟩
theorem no_check {b : Bk} {q : Qn} {l : List Fd} {a : Bool} (h : provesB b q l q.says = false) : checkB b q a l = false := by
  unfold checkB
  rw [h, Bool.and_false, Bool.false_and]
theorem yes_check {b : Bk} {q : Qn} {l : List Fd} (hv : validB b = true) (hq : asksB q = true) (h : provesB b q l q.says = true) : checkB b q (soB b q q.says) l = true := by
  have hs := says_of hq
  obtain ⟨k, f, _, h2, h3, h4⟩ := proves_ne hs.1 h
  have := proves_so (low_of hv) hs.2 h f (List.mem_of_getElem? h2)
  unfold checkB
  rw [hv, hq, h, h3, this, h4]
  simp
/-- No list is accepted for the other answer. -/
theorem other_check {b : Bk} {q : Qn} (hv : validB b = true) (hq : asksB q = true) (l : List Fd) : checkB b q (!soB b q q.says) l = false := by
  cases h : provesB b q l q.says with
  | false => exact no_check h
  | true =>
    have hs := says_of hq
    obtain ⟨k, f, _, h2, h3, h4⟩ := proves_ne hs.1 h
    have := proves_so (low_of hv) hs.2 h f (List.mem_of_getElem? h2)
    unfold checkB
    rw [hv, hq, h, h3, this, h4]
    cases soB b q q.says <;> rfl
theorem check_at (b : Bk) (q : Qn) (a r : Bool) (l : List Fd) (A : Option Addr) (m c : Nat) (hv : validB b = true) (hr : checkB b q a l = r) (hm : l.length = m) (hc : m ≤ c) (h9 : m ≤ 1000) (cv rv fv : Value) (W : World) (h : BkV W W.heap.size cv rv fv b) (hl : FdsC W A l) :
    Calls Try.prog 13 #[.agg #[cv, rv, fv], .agg (qnC q), .bool a, .slice A m c] W fun e w' => e = .returned (.bool r) ∧ Below W.heap.size W w' := by
  subst hm
  rw [← hr]
  exact check_any b q a l A c (by show _ ≤ 9223372036854775807; omega) hc cv rv fv W h (bki_of hv) hl
end Go.Proofs.Ytiglkecmamnphaa
