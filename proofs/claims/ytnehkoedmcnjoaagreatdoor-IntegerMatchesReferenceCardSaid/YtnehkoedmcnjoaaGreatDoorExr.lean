/- The exported functions: Root, ToInt, Valid. -/
import Derived.Test.YtnehkoedmcnjoaaGreatDoorExq
namespace Go.Proofs.YtnehkoedmcnjoaaGreatDoor
open Go.RowKit

def rootOk (a : ByteArray) : Bool := validB a.data.toList && !decide (numB a < 0)
def rootT (a : ByteArray) : ByteArray := if rootOk a then dec (rt (numB a).natAbs : Nat) else ByteArray.empty
def rootE (a : ByteArray) : Int := if rootOk a then 0 else 30

set_option maxRecDepth 100000 in
set_option maxHeartbeats 8000000 in
theorem Root_any (a : ByteArray) (w : World) (ht : Tab w) :
    Calls Tryz.prog 17 #[.string a] w fun e w' => e = .returned (.tuple #[.string (rootT a), .int .i64 (rootE a)]) ∧ Below w.heap.size w w' := by
  have cP := fun W => parse_any a W
  have HT := Lib.hid ht
  cases hv : validB a.data.toList
  · have e0 : rootOk a = false := by rw [rootOk, hv]; rfl
    have e1 : rootT a = ByteArray.empty := by rw [rootT, e0]; rfl
    have e2 : rootE a = 30 := by rw [rootE, e0]; rfl
    rw [e1, e2]
    rw [hv] at cP
    have CP := Lib.hid cP
    clear hv e0 e1 e2 cP ht
    go_enter Tryz.func17, Tryz.ntmps17
    go_wp2_with (first
      | (go_at_call 44; (with_reducible refine (CP.out _).mono ?_); rintro e w1 ⟨A1, L1, c1, rfl, hN1, hb1⟩)
      | fail)
    go_ret2
    exact ⟨rfl, below_step hb1 (below_alloc _ _)⟩
  · rw [hv] at cP
    cases hs : decide (numB a < 0)
    · have e0 : rootOk a = true := by rw [rootOk, hv, hs]; rfl
      have e1 : rootT a = str (Lib.decDigits (rt (szB a))) := by rw [rootT, e0, sz_ok hv]; exact dec_nat _
      have e2 : rootE a = 0 := by rw [rootE, e0]; rfl
      have e3 : sgB a = false := by rw [sg_ok hv, hs]
      rw [e1, e2]
      rw [e3] at cP
      have cR := fun (A : Option Addr) (L c : Nat) W (h : Nt W W.heap.size A L c (szB a)) => root_any A L c (szB a) (nt_300 h) W h
      have hlr : ∀ (W : World) (B : Nat) (A : Option Addr) (L c : Nat), Nt W B A L c (rt (szB a)) → L ≤ 900 := fun W B A L c h => Nat.le_trans (nt_50 h (Nat.lt_of_le_of_lt (rt_le _) (sz_small a))) (by decide)
      have cT := fun (A : Option Addr) (L c : Nat) (m : L ≤ 900) W (h : Nt W W.heap.size A L c (rt (szB a))) (ht : Tab W) => text_any A L c (rt (szB a)) m W h ht
      obtain ⟨Z, hZ⟩ : ∃ Z, Z = str (Lib.decDigits (rt (szB a))) := ⟨_, rfl⟩
      rw [← hZ] at cT ⊢
      have CP := Lib.hid cP; have CR := Lib.hid cR; have CT := Lib.hid cT; have HLR := Lib.hid hlr
      clear hv e0 e1 e2 e3 cP ht hs cR cT hlr hZ
      go_enter Tryz.func17, Tryz.ntmps17
      go_wp2_with (first
        | (go_at_call 44; (with_reducible refine (CP.out _).mono ?_); rintro e w1 ⟨A1, L1, c1, rfl, hN1, hb1⟩; have hb1a := below_step hb1 (below_alloc w1 (.cells #[.bool false, .slice A1 L1 c1] 47)))
        | (go_at_call 45; (with_reducible refine (CR.out _ _ _ _ (hN1.kept (below_alloc _ _))).mono ?_); rintro e w2 ⟨A2, L2, c2, rfl, hN2, hb2⟩; have hb2a := below_step hb1a hb2; have l2 := HLR.out _ _ _ _ _ hN2)
        | (go_at_call 46; (with_reducible refine (CT.out _ _ _ l2 _ hN2 (HT.out.below hb2a)).mono ?_); rintro e w3 ⟨rfl, hb3⟩; have hb3a := below_step hb2a hb3)
        | fail)
      go_ret2
      exact ⟨rfl, hb3a⟩
    · have e0 : rootOk a = false := by rw [rootOk, hv, hs]; rfl
      have e1 : rootT a = ByteArray.empty := by rw [rootT, e0]; rfl
      have e2 : rootE a = 30 := by rw [rootE, e0]; rfl
      have e3 : sgB a = true := by rw [sg_ok hv, hs]
      rw [e1, e2]
      rw [e3] at cP
      have CP := Lib.hid cP
      clear hv e0 e1 e2 e3 cP ht hs
      go_enter Tryz.func17, Tryz.ntmps17
      go_wp2_with (first
        | (go_at_call 44; (with_reducible refine (CP.out _).mono ?_); rintro e w1 ⟨A1, L1, c1, rfl, hN1, hb1⟩)
        | fail)
      go_ret2
      exact ⟨rfl, below_step hb1 (below_alloc _ _)⟩

/-- strconv.ErrRange stands in the world. -/
def Err (w : World) : Prop := ∃ tp p, w.var? Tryz.prog "strconv.ErrRange" = some #[.iface tp p]
theorem Err.below {w w' : World} (h : Err w) (hb : Below w.heap.size w w') : Err w' := by
  obtain ⟨tp, p, h⟩ := h
  refine ⟨tp, p, ?_⟩
  unfold World.var? at h ⊢
  cases hg : Tryz.prog.globalNamed "strconv.ErrRange" with
  | none => simp [hg] at h
  | some g =>
    simp only [hg, Option.bind_some] at h ⊢
    have hlt : g < w.heap.size := by
      rcases Nat.lt_or_ge g w.heap.size with h' | h'
      · exact h'
      · simp [Array.getElem?_eq_none h'] at h
    rw [hb.block g hlt]
    exact h
def intOk (a : ByteArray) : Bool := validB a.data.toList && in64 (numB a)
def intN (a : ByteArray) : Int := if intOk a then numB a else 0
def intE (a : ByteArray) : Int := if intOk a then 0 else 30

set_option maxRecDepth 100000 in
set_option maxHeartbeats 8000000 in
theorem ToInt_any (a : ByteArray) (w : World) (he : Err w) :
    Calls Tryz.prog 19 #[.string a] w fun e w' => e = .returned (.tuple #[.int .i64 (intN a), .int .i64 (intE a)]) ∧ Below w.heap.size w w' := by
  have cV := fun W => valid_any a W
  have HE := Lib.hid he
  cases hv : validB a.data.toList
  · have e0 : intOk a = false := by rw [intOk, hv]; rfl
    have e1 : intN a = 0 := by rw [intN, e0]; rfl
    have e2 : intE a = 30 := by rw [intE, e0]; rfl
    rw [e1, e2]
    rw [hv] at cV
    have CV := Lib.hid cV
    clear hv e0 e1 e2 cV he
    go_enter Tryz.func19, Tryz.ntmps19
    go_wp2_with (first
      | (go_at_call 21; (with_reducible refine (CV.out _).mono ?_); rintro e w1 ⟨rfl, hb1⟩)
      | fail)
    go_ret2
    exact ⟨rfl, hb1⟩
  · have hp := parse_valid a.data.toList hv
    have hsz : a.size ≤ 1000 := by
      obtain ⟨_, _, h3, _, _⟩ := mag_facts a hv
      have h4 : a.size ≤ (magB a).size + 1 := by
        show a.data.toList.length ≤ (mag a.data.toList).length + 1
        unfold mag; split
        · rw [List.length_tail]; omega
        · omega
      omega
    rw [hv] at cV
    cases hi : in64 (numB a)
    · have e0 : intOk a = false := by rw [intOk, hv, hi]; rfl
      have e1 : intN a = 0 := by rw [intN, e0]; rfl
      have e2 : intE a = 30 := by rw [intE, e0]; rfl
      rw [e1, e2]
      have hpr : Lib.parseIntB 64 a.data.toList = .range := by rw [hp, show in64 (num a.data.toList) = false from hi]; rfl
      have cP := fun W (h : Err W) => (show Calls Tryz.prog 49 #[.string a, .int .i64 10, .int .i64 64] W fun e w' => ∃ n T N, e = .returned (.tuple #[.int .i64 n, .iface T (.pointer (some ⟨N, 0, none⟩))]) ∧ Below W.heap.size W w' by
        obtain ⟨tp, p, h⟩ := h
        exact (Tryz.strconv_ParseInt_10_at64_range_var a (by omega) hpr tp p W h).mono (fun e w' hh => by
          obtain ⟨N, h1, _, _, h4⟩ := hh
          exact ⟨_, _, N, h1, h4⟩))
      have CV := Lib.hid cV; have CP := Lib.hid cP
      clear hv e0 e1 e2 cV he hp hi hpr cP hsz
      go_enter Tryz.func19, Tryz.ntmps19
      go_wp2_with (first
        | (go_at_call 21; (with_reducible refine (CV.out _).mono ?_); rintro e w1 ⟨rfl, hb1⟩)
        | (go_at_call 49; (with_reducible refine (CP.out _ (HE.out.below hb1)).mono ?_); rintro e w2 ⟨n2, T2, N2, rfl, hb2⟩)
        | fail)
      go_ret2
      exact ⟨rfl, below_step hb1 hb2⟩
    · have e0 : intOk a = true := by rw [intOk, hv, hi]; rfl
      have e1 : intN a = numB a := by rw [intN, e0]; rfl
      have e2 : intE a = 0 := by rw [intE, e0]; rfl
      rw [e1, e2]
      have hpr : Lib.parseIntB 64 a.data.toList = .ok (numB a) := by rw [hp, show in64 (num a.data.toList) = true from hi]; rfl
      have cP := fun W => (show Calls Tryz.prog 49 #[.string a, .int .i64 10, .int .i64 64] W fun e w' => e = .returned (.tuple #[.int .i64 (numB a), .nilIface]) ∧ Below W.heap.size W w' by
        exact (Tryz.strconv_ParseInt_10_at64_ok a (by omega) (numB a) hpr W).mono (fun e w' hh => by
          obtain ⟨h1, h2⟩ := hh
          refine ⟨h1, ?_⟩
          rcases h2 with rfl | ⟨t, rfl⟩
          · exact Below.refl _ _
          · exact Lib.bytesWorld_below _ _ _))
      have hn : IntKind.i64.wrap (numB a) = numB a := by
        rw [IntWalk.i64_in _ (by simp only [in64, Bool.and_eq_true, decide_eq_true_eq] at hi; omega)]
      obtain ⟨n, hnn⟩ : ∃ n, n = numB a := ⟨_, rfl⟩
      rw [← hnn] at cP hn ⊢
      have CV := Lib.hid cV; have CP := Lib.hid cP
      clear hv e0 e1 e2 cV he hp hi hpr cP hsz hnn
      go_enter Tryz.func19, Tryz.ntmps19
      go_wp2_with (first
        | (go_at_call 21; (with_reducible refine (CV.out _).mono ?_); rintro e w1 ⟨rfl, hb1⟩)
        | (go_at_call 49; (with_reducible refine (CP.out _).mono ?_); rintro e w2 ⟨rfl, hb2⟩)
        | fail)
      go_ret2
      exact ⟨rfl, below_step hb1 hb2⟩
end Go.Proofs.YtnehkoedmcnjoaaGreatDoor
