/- The walk of dialtonelaw01.WireSumAffine. -/
import Derived.Test.YtcmeplgkillbdaaDoorUse
import Derived.RegionTactic
import Derived.BigQuiet
import Derived.Deep.QuietTactic
import Derived.Deep.OwnRows
import Derived.WalkSmall
namespace Go.Proofs.YtcmeplgkillbdaaDoor
open Go.RowKit

theorem min4 (a b c : Nat) : ∃ n : Nat, n ≤ a ∧ n ≤ b ∧ n ≤ c ∧ n ≤ 200 ∧ ∀ w : World, (Builtin.min_ #[3, 3, 3, 3] 3 #[.int .i64 a, .int .i64 b, .int .i64 c, .int .i64 200]).run Tryd.prog w = .ok (.int .i64 (n : Int)) w := by
  refine ⟨min (min (min a b) c) 200, by omega, by omega, by omega, by omega, fun w => ?_⟩
  simp only [Builtin.min_, List.foldlM_cons, List.foldlM_nil, Builtin.min2, pure_bind, bind_pure]
  simp only [Sem.run_pure]
  congr 2
  split <;> split <;> split <;> omega

theorem ofInt_64 (a : Nat) (ha : a < 9223372036854775808) : (BitVec.ofInt 64 (a : Int)).toNat = a := by
  rw [BitVec.ofInt_natCast, BitVec.toNat_ofNat]; exact Nat.mod_eq_of_lt (by omega)
theorem i64_xor_n (a b : Nat) (ha : a < 9223372036854775808) (hb : b < 9223372036854775808) : bits .xor .i64 (a : Int) (b : Int) = ((a ^^^ b : Nat) : Int) := by
  have hx : a ^^^ b < 2 ^ 63 := Nat.xor_lt_two_pow (by omega) (by omega)
  show IntKind.i64.wrap ((BitVec.ofInt 64 (a : Int) ^^^ BitVec.ofInt 64 (b : Int)).toNat : Int) = _
  rw [BitVec.toNat_xor, ofInt_64 a ha, ofInt_64 b hb, IntWalk.i64_in _ (by omega)]
theorem tab_drewN {w : World} {n : Nat} (h : Tab w) : Tab (w.drewN n) := h
theorem sum_q (s : ByteArray) (hs : s.size ≤ 9223372036854775807) (w : World) (ht : Tab w) :
    Calls Tryd.prog 21 #[.string s] w fun e w' => e = .returned (.int .i64 (crc s.data.toList)) ∧ w' = w := (sum_any s hs w ht).mono fun _ _ h => ⟨h.1, h.2.symm⟩
def x3 (a b c : ByteArray) (k : Nat) : UInt8 := (a.data.toList.getD k 0 ^^^ b.data.toList.getD k 0) ^^^ c.data.toList.getD k 0
set_option maxRecDepth 100000 in
set_option maxHeartbeats 2000000 in
theorem aff_walk (a b c : ByteArray) (ha : a.size ≤ 9223372036854775807) (hb : b.size ≤ 9223372036854775807) (hc : c.size ≤ 9223372036854775807)
    (w : World) (htab : Tab w) (hsz : 0 < w.heap.size) :
    Calls Tryd.prog 9 #[.string a, .string b, .string c] w fun e w' => e = .returned (.bool true) ∧ Below w.heap.size w w' := by
  have HT := Lib.hid htab; clear htab
  obtain ⟨n, na, nb, nc, n2, hmin⟩ := min4 a.size b.size c.size
  go_enter Tryd.func9, Tryd.ntmps9
  go_wp2_with fail
  refine (sane_any _ HT.out hsz).mono ?_
  rintro e w1 ⟨rfl, b1⟩
  have hmk := run_make_row' (P := Tryd.prog) 38 5 (.int .u8 0) 1 Tryd.underlying38 byte_info rfl .i64 .i64 n (by omega) (by omega) w1
  have hrow0 := World.rowIs_made w1 (.int .u8 0) n 5
  go_wp2_with fail
  go_loopw [10] (fun i wr => ∃ j : Nat, i = .int .i64 j ∧ j ≤ n ∧ wr.rowIs w1.heap.size 5 n (fun k => if k < j then .int .u8 ((x3 a b c k).toNat : Int) else .int .u8 0) ∧ Below w1.heap.size w1 wr) (fun i _ => n - (intOf i).toNat)
  case atStart => exact ⟨0, rfl, by omega, hrow0.congr (fun i _ => by simp), (Below.refl _ _).alloc (Nat.le_refl _) _⟩
  case round =>
    obtain ⟨j, rfl, hj, hrow, hbr⟩ := hrel
    clear hmk hmin hrow0
    by_cases hlt : j < n
    · have hca : j < a.size := by omega
      have hcb : j < b.size := by omega
      have hcc : j < c.size := by omega
      have hcell := hrow.cell hlt
      have hfree := hrow.frozen j
      simp only [Nat.lt_irrefl, if_false] at hcell
      have e1 := u8_xor_nat _ _ a[j].toNat_lt b[j].toNat_lt
      have e2 := u8_xor_nat (a[j].toNat ^^^ b[j].toNat) _ (Nat.xor_lt_two_pow (n := 8) a[j].toNat_lt b[j].toNat_lt) c[j].toNat_lt
      have hx : x3 a b c j = a[j] ^^^ b[j] ^^^ c[j] := by simp [x3, hca, hcb, hcc]; rfl
      have HX := Lib.hid hx; have HR := Lib.hid hrow; clear hx hrow
      go_wp2
      go_region
      go_wp2
      go_roundw
      case rel =>
        refine ⟨j + 1, by go_num, by omega, ?_, (hbr.setCell (p := ⟨w1.heap.size, j, none⟩) (Nat.le_refl _) _).drew⟩
        have h := (HR.out.set j (.int .u8 ((a[j].toNat ^^^ b[j].toNat ^^^ c[j].toNat : Nat) : Int))).drew
        refine h.congr (fun i hi => ?_)
        by_cases hij : i = j
        · subst hij; simp [HX.out]
        · by_cases h2 : i < j
          · simp [hij, h2, show i < j + 1 by omega]
          · simp [hij, h2, show ¬ i < j + 1 by omega]
      case measure => simp [intOf]; omega
    · obtain rfl : j = n := by omega
      obtain ⟨X, hX⟩ : ∃ X : ByteArray, X = ⟨((List.range j).map (x3 a b c)).toArray⟩ := ⟨_, rfl⟩
      have sX : X.size = j := by rw [hX, size_arr]; simp
      have hconv : ∀ nq, (convert 38 9 (.slice (some ⟨w1.heap.size, 0, none⟩) j j)).run Tryd.prog (wr.drewN nq) = .ok (.string X) (wr.drewN nq) := by
        intro nq
        have := run_convert_bytes_back (P := Tryd.prog) (wr.drewN nq) 38 9 5 ⟨w1.heap.size, 0, none⟩ j X.data.toList Tryd.underlying38 Tryd.underlying5 Tryd.underlying9 (by
          intro i hi
          rw [len_data, sX] at hi
          rw [add_head]
          refine (hrow.cell hi).trans ?_
          simp [hi, hX])
        rw [len_data, sX] at this
        exact this
      obtain ⟨A, hA⟩ : ∃ A, a.extract 0 j = A := ⟨_, rfl⟩
      obtain ⟨B, hB⟩ : ∃ B, b.extract 0 j = B := ⟨_, rfl⟩
      obtain ⟨C, hC⟩ : ∃ C, c.extract 0 j = C := ⟨_, rfl⟩
      have sA : A.size = j := by rw [← hA]; exact ext_size a j na
      have sB : B.size = j := by rw [← hB]; exact ext_size b j nb
      have sC : C.size = j := by rw [← hC]; exact ext_size c j nc
      have hx3 := crc_xor3 A.data.toList B.data.toList C.data.toList (by rw [len_data, len_data]; omega) (by rw [len_data, len_data]; omega)
      have hXl : X.data.toList = List.zipWith (· ^^^ ·) (List.zipWith (· ^^^ ·) A.data.toList B.data.toList) C.data.toList := by
        rw [hX, ← hA, ← hB, ← hC, ext_list, ext_list, ext_list]
        have la := len_data a
        have lb := len_data b
        have lc := len_data c
        apply List.ext_getElem
        · rw [List.length_zipWith, List.length_zipWith, List.length_take, List.length_take, List.length_take, la, lb, lc]
          simp; omega
        · intro i h1 h2
          simp at h1
          have ia : i < a.data.toList.length := by rw [len_data]; omega
          have ib : i < b.data.toList.length := by rw [len_data]; omega
          have ic : i < c.data.toList.length := by rw [len_data]; omega
          simp [x3, List.getD_eq_getElem?_getD, List.getElem?_eq_getElem ia, List.getElem?_eq_getElem ib, List.getElem?_eq_getElem ic]
      rw [← hXl] at hx3
      have lt32 : ∀ l, (~~~ crcR l).toNat < 9223372036854775808 := fun l => by have := (~~~ crcR l).isLt; omega
      obtain ⟨U, hU⟩ : ∃ U : Nat, U = (~~~ crcR A.data.toList).toNat ^^^ (~~~ crcR B.data.toList).toNat := ⟨_, rfl⟩
      have e1 : bits .xor .i64 (crc A.data.toList) (crc B.data.toList) = (U : Int) := by rw [hU]; exact i64_xor_n _ _ (lt32 _) (lt32 _)
      have e2 : bits .xor .i64 (U : Int) (crc C.data.toList) = crc X.data.toList := by
        rw [hU, crc, crc, i64_xor_n _ _ (Nat.xor_lt_two_pow (n := 63) (lt32 _) (lt32 _)) (lt32 _), hx3]
      have ht1 : Tab w1 := HT.out.below b1 hsz
      have ht2 := Lib.hid (ht1.below hbr (Nat.lt_of_lt_of_le hsz b1.size))
      have kA : A.size ≤ 200 := by omega
      have kB : B.size ≤ 200 := by omega
      have kC : C.size ≤ 200 := by omega
      have kX : X.size ≤ 200 := by omega
      clear hrow hX hXl hx3 lt32 sA sB sC sX hU
      go_wp2_with fail
      go_quiet ((go_at_call 21; exact Calls.quiet_of_same (sum_q _ (by omega) _ (tab_drewN ht2.out))))
      go_wp2
      go_ret
      refine ⟨by simp, below_drewN (b1.trans (hbr.mono b1.size)) _⟩
end Go.Proofs.YtcmeplgkillbdaaDoor
