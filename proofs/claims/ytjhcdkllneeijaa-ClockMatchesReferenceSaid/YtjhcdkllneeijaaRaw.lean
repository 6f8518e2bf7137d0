/- The walk of the reference's Agree. -/
import Derived.Test.YtjhcdkllneeijaaRag
namespace Go.Proofs.Ytjhcdkllneeijaa
open Go.RowKit

set_option maxRecDepth 100000 in
set_option maxHeartbeats 16000000 in
theorem ragree_any (l : List (Int × Int)) (hl : l.length ≤ 1000) (A : Option Addr) (c : Nat) (w : World) (h : Sps w w.heap.size A l) :
    Calls Try.prog 14 #[.slice A l.length c] w fun e w' => (∃ f t k, e = .returned (agrV f t k) ∧ Agr l f t k) ∧ Below w.heap.size w w' := by
  obtain ⟨L, hL⟩ : ∃ L, L = l.length := ⟨_, rfl⟩
  have hin := fun (v : Int) (W : World) (hb : Below w.heap.size w W) => inside_any l hl A c w.heap.size v W (h.below hb)
  have hle := fun v => inN_le l v
  rw [← hL] at hin hle hl ⊢
  obtain ⟨W1, hW1⟩ : ∃ W1, W1 = w.alloc (Obj.cells #[Value.int IntKind.i64 0, Value.int IntKind.i64 0] 32) := ⟨_, rfl⟩
  have r1 : Row W1 w.heap.size 32 #[.int .i64 0, .int .i64 0] := by rw [hW1]; exact Row.made _ _ _
  have b1 : Below w.heap.size w W1 := by rw [hW1]; exact below_alloc _ _
  have HI := Lib.hid hin; have HL := Lib.hid hL; have HS := Lib.hid h; have HLE := Lib.hid hle; have R1 := Lib.hid r1; have BH := Lib.hid b1
  clear hin hL h hle r1 b1
  go_enter Try.func14, Try.ntmps14
  go_wp2
  rw [← hW1]
  clear hW1
  go_loopg [4, 5, 6, 7] L (fun kx s4 s5 s6 s7 wr => ∃ (k most : Nat) (f : Int), s4 = .int .i64 (most : Int) ∧ s5 = .int .i64 f ∧ s6 = .int .i64 (k : Int) ∧ k + kx = L ∧ most ≤ 1000 ∧ wr = W1 ∧ Hid (Ph l k most f))
  case atStart => exact ⟨0, 0, 0, rfl, rfl, rfl, by omega, by omega, rfl, Lib.hid (Ph.zero l)⟩
  case round =>
    obtain ⟨k, most, f, rfl, rfl, rfl, hk, hm, rfl, I⟩ := hrel
    by_cases hlt : k < L
    · obtain ⟨⟨x, y⟩, hv⟩ : ∃ y, l[k]? = some y := ⟨l[k]'(by rw [← HL.out]; exact hlt), by simp⟩
      obtain ⟨bb, o, hA, hbb, e0, e1⟩ := (HS.out.below BH.out).at hv
      subst hA
      dsimp only at e0 e1
      have ix := fun (W : World) (hb : Below w.heap.size w W) => HI.out x W hb
      obtain ⟨n, hn⟩ : ∃ n, n = inN l x := ⟨_, rfl⟩
      rw [← hn] at ix
      have hn2 : n ≤ 1000 := by rw [hn]; have := HLE.out x; omega
      have IX := Lib.hid ix; have HN := Lib.hid hn; have HV := Lib.hid hv
      clear ix hn hv
      by_cases c1 : most < n
      · have hS := Lib.hid (I.out.up HV.out (by rw [← HN.out]; exact c1))
        have hS2 := hS.out
        rw [← HN.out] at hS2
        have HS3 := Lib.hid hS2
        clear hS hS2
        go_wp2_with (go_at_call 34; (with_reducible refine (IX.out _ BH.out).mono ?_); rintro e wx ⟨rfl, hwx⟩; have hwx := hwx.symm; subst hwx)
        go_roundg (L - (k + 1))
        case measure => omega
        case rel => exact ⟨k + 1, n, x, rfl, rfl, by go_num, by omega, hn2, rfl, HS3.out |> Lib.hid⟩
      · by_cases c2 : n = most
        · subst c2
          by_cases c3 : x < f
          · have HS3 := Lib.hid (I.out.left HV.out HN.out.symm c3)
            go_wp2_with (go_at_call 34; (with_reducible refine (IX.out _ BH.out).mono ?_); rintro e wx ⟨rfl, hwx⟩; have hwx := hwx.symm; subst hwx)
            go_roundg (L - (k + 1))
            case measure => omega
            case rel => exact ⟨k + 1, n, x, rfl, rfl, by go_num, by omega, hn2, rfl, HS3.out |> Lib.hid⟩
          · have HS3 := Lib.hid (I.out.stay HV.out (by rw [← HN.out]; exact Nat.le_refl _) (fun _ => by omega))
            go_wp2_with (go_at_call 34; (with_reducible refine (IX.out _ BH.out).mono ?_); rintro e wx ⟨rfl, hwx⟩; have hwx := hwx.symm; subst hwx)
            go_roundg (L - (k + 1))
            case measure => omega
            case rel => exact ⟨k + 1, n, f, rfl, rfl, by go_num, by omega, hn2, rfl, HS3.out |> Lib.hid⟩
        · have HS3 := Lib.hid (I.out.stay HV.out (by rw [← HN.out]; omega) (fun h => absurd (HN.out.trans h) c2))
          have c2' : decide ((n : Int) = (most : Int)) = false := decide_eq_false (by omega)
          have c22 : ((n : Int) == (most : Int)) = false := by simp; omega
          have c23 : decide (n = most) = false := decide_eq_false c2
          go_wp2_with (go_at_call 34; (with_reducible refine (IX.out _ BH.out).mono ?_); rintro e wx ⟨rfl, hwx⟩; have hwx := hwx.symm; subst hwx)
          go_roundg (L - (k + 1))
          case measure => omega
          case rel => exact ⟨k + 1, most, f, rfl, rfl, by go_num, by omega, hm, rfl, HS3.out |> Lib.hid⟩
    · have hP : Ph l l.length most f := by rw [← HL.out, show L = k by omega]; exact I.out
      obtain ⟨m0, m1, m2, m3⟩ := R1.out.two
      have HP := Lib.hid hP
      clear hP I
      by_cases h0 : most = 0
      · subst h0
        go_wp2
        (try simp only [Exit.inBlock, Exit.then])
        refine bodyPost_ret (res_sp rfl rfl (put2 R1.out _ _)) rfl ?_
        exact ⟨⟨0, 0, 0, rfl, .inl ⟨rfl, rfl, rfl, fun s => by have := HP.out.all s; omega⟩⟩, below_put BH.out (Nat.le_refl _) _ _⟩
      · have h0' : decide (most = 0) = false := decide_eq_false h0
        have h02 : ((most : Int) == 0) = false := by simpa using h0
        go_wp2
        go_loopg [8, 9, 10] (aft l f) (fun kx s8 s9 s10 wr' => ∃ a : Int, s8 = .int .i64 a ∧ aft l a ≤ kx ∧ wr' = wr ∧ Hid (Sd l most f a))
        case atStart => exact ⟨f, rfl, Nat.le_refl _, rfl, Lib.hid ⟨Int.le_refl _, fun s s1 s2 => by omega⟩⟩
        case round =>
          obtain ⟨a, rfl, hka, rfl, J⟩ := hrel
          have ia := fun (W : World) (hb : Below w.heap.size w W) => HI.out a W hb
          obtain ⟨n, hn⟩ : ∃ n, n = inN l a := ⟨_, rfl⟩
          rw [← hn] at ia
          have IA := Lib.hid ia; have HN := Lib.hid hn
          clear ia hn
          by_cases c1 : n = most
          · subst c1
            go_wp2_with (go_at_call 34; (with_reducible refine (IA.out _ BH.out).mono ?_); rintro e wx ⟨rfl, hwx⟩; have hwx := hwx.symm; subst hwx)
            go_loopg [9, 10] L (fun kx s9 s10 wr'' => ∃ (j : Nat) (nx : Int), s9 = .int .i64 nx ∧ s10 = .int .i64 (j : Int) ∧ j + kx = L ∧ wr'' = wr ∧ Hid (Nx a (ends (l.take j)) nx))
            case atStart => exact ⟨0, a, rfl, rfl, by omega, rfl, Lib.hid (.inl ⟨rfl, by simp [ends]⟩)⟩
            case round =>
              obtain ⟨j, nx, rfl, rfl, hj, rfl, Q⟩ := hrel
              by_cases hjl : j < L
              · obtain ⟨⟨x, y⟩, hv⟩ : ∃ y, l[j]? = some y := ⟨l[j]'(by rw [← HL.out]; exact hjl), by simp⟩
                obtain ⟨bb, o, hA, hbb, e0, e1⟩ := (HS.out.below BH.out).at hv
                subst hA
                dsimp only at e0 e1
                have HV := Lib.hid hv
                clear hv
                by_cases f1 : a < x
                · by_cases f2 : nx = a
                  · subst f2
                    have Q2 := Lib.hid (Q.out.take f1 (.inl rfl))
                    by_cases d1 : nx < y
                    · by_cases d2 : x = nx
                      · exact absurd d2 (by omega)
                      · have d2' : decide (x = nx) = false := decide_eq_false d2
                        have d22 : (x == nx) = false := by simpa using d2
                        by_cases d3 : y < x
                        · have QF := Lib.hid (Q2.out.take d1 (.inr d3))
                          go_wp2
                          go_roundg (L - (j + 1))
                          case measure => omega
                          case rel => exact ⟨j + 1, y, rfl, by go_num, by omega, rfl, Lib.hid (by rw [ends_take HV.out]; exact QF.out)⟩
                        · have QF := Lib.hid (Q2.out.skip (e := y) (fun h => by omega))
                          go_wp2
                          go_roundg (L - (j + 1))
                          case measure => omega
                          case rel => exact ⟨j + 1, x, rfl, by go_num, by omega, rfl, Lib.hid (by rw [ends_take HV.out]; exact QF.out)⟩
                    · have QF := Lib.hid (Q2.out.skip (e := y) (fun h => d1 h.1))
                      go_wp2
                      go_roundg (L - (j + 1))
                      case measure => omega
                      case rel => exact ⟨j + 1, x, rfl, by go_num, by omega, rfl, Lib.hid (by rw [ends_take HV.out]; exact QF.out)⟩
                  · have f2' : decide (nx = a) = false := decide_eq_false f2
                    have f22 : (nx == a) = false := by simpa using f2
                    by_cases f3 : x < nx
                    · have Q2 := Lib.hid (Q.out.take f1 (.inr f3))
                      by_cases d1 : a < y
                      · by_cases d2 : x = a
                        · exact absurd d2 (by omega)
                        · have d2' : decide (x = a) = false := decide_eq_false d2
                          have d22 : (x == a) = false := by simpa using d2
                          by_cases d3 : y < x
                          · have QF := Lib.hid (Q2.out.take d1 (.inr d3))
                            go_wp2
                            go_roundg (L - (j + 1))
                            case measure => omega
                            case rel => exact ⟨j + 1, y, rfl, by go_num, by omega, rfl, Lib.hid (by rw [ends_take HV.out]; exact QF.out)⟩
                          · have QF := Lib.hid (Q2.out.skip (e := y) (fun h => by omega))
                            go_wp2
                            go_roundg (L - (j + 1))
                            case measure => omega
                            case rel => exact ⟨j + 1, x, rfl, by go_num, by omega, rfl, Lib.hid (by rw [ends_take HV.out]; exact QF.out)⟩
                      · have QF := Lib.hid (Q2.out.skip (e := y) (fun h => d1 h.1))
                        go_wp2
                        go_roundg (L - (j + 1))
                        case measure => omega
                        case rel => exact ⟨j + 1, x, rfl, by go_num, by omega, rfl, Lib.hid (by rw [ends_take HV.out]; exact QF.out)⟩
                    · have Q2 := Lib.hid (Q.out.skip (e := x) (fun h => by omega))
                      by_cases d1 : a < y
                      · by_cases d2 : nx = a
                        · exact absurd d2 (by omega)
                        · have d2' : decide (nx = a) = false := decide_eq_false d2
                          have d22 : (nx == a) = false := by simpa using d2
                          by_cases d3 : y < nx
                          · have QF := Lib.hid (Q2.out.take d1 (.inr d3))
                            go_wp2
                            go_roundg (L - (j + 1))
                            case measure => omega
                            case rel => exact ⟨j + 1, y, rfl, by go_num, by omega, rfl, Lib.hid (by rw [ends_take HV.out]; exact QF.out)⟩
                          · have QF := Lib.hid (Q2.out.skip (e := y) (fun h => by omega))
                            go_wp2
                            go_roundg (L - (j + 1))
                            case measure => omega
                            case rel => exact ⟨j + 1, nx, rfl, by go_num, by omega, rfl, Lib.hid (by rw [ends_take HV.out]; exact QF.out)⟩
                      · have QF := Lib.hid (Q2.out.skip (e := y) (fun h => d1 h.1))
                        go_wp2
                        go_roundg (L - (j + 1))
                        case measure => omega
                        case rel => exact ⟨j + 1, nx, rfl, by go_num, by omega, rfl, Lib.hid (by rw [ends_take HV.out]; exact QF.out)⟩
                · have Q2 := Lib.hid (Q.out.skip (e := x) (fun h => f1 h.1))
                  by_cases d1 : a < y
                  · by_cases d2 : nx = a
                    · have d2' : decide (nx = a) = true := decide_eq_true d2
                      have d22 : (nx == a) = true := by simpa using d2
                      have QF := Lib.hid (Q2.out.take d1 (.inl d2))
                      go_wp2
                      go_roundg (L - (j + 1))
                      case measure => omega
                      case rel => exact ⟨j + 1, y, rfl, by go_num, by omega, rfl, Lib.hid (by rw [ends_take HV.out]; exact QF.out)⟩
                    · have d2' : decide (nx = a) = false := decide_eq_false d2
                      have d22 : (nx == a) = false := by simpa using d2
                      by_cases d3 : y < nx
                      · have QF := Lib.hid (Q2.out.take d1 (.inr d3))
                        go_wp2
                        go_roundg (L - (j + 1))
                        case measure => omega
                        case rel => exact ⟨j + 1, y, rfl, by go_num, by omega, rfl, Lib.hid (by rw [ends_take HV.out]; exact QF.out)⟩
                      · have QF := Lib.hid (Q2.out.skip (e := y) (fun h => by omega))
                        go_wp2
                        go_roundg (L - (j + 1))
                        case measure => omega
                        case rel => exact ⟨j + 1, nx, rfl, by go_num, by omega, rfl, Lib.hid (by rw [ends_take HV.out]; exact QF.out)⟩
                  · have QF := Lib.hid (Q2.out.skip (e := y) (fun h => d1 h.1))
                    go_wp2
                    go_roundg (L - (j + 1))
                    case measure => omega
                    case rel => exact ⟨j + 1, nx, rfl, by go_num, by omega, rfl, Lib.hid (by rw [ends_take HV.out]; exact QF.out)⟩
              · have hst := J.out.step HN.out.symm (by omega) (show Nx a (ends l) nx by
                  have := Q.out
                  rwa [List.take_of_length_le (by rw [← HL.out]; omega)] at this)
                have hless := aft_less hst.1 hst.2.1
                have HST := Lib.hid hst.2.2
                clear hst
                go_wp2
                go_roundg (aft l nx)
                case measure => omega
                case rel => exact ⟨nx, rfl, Nat.le_refl _, rfl, HST⟩
          · have hD := Lib.hid (J.out.done HP.out (by omega) (fun h => c1 (HN.out.trans h)))
            have c1' : decide ((n : Int) = (most : Int)) = false := decide_eq_false (by omega)
            have c12 : ((n : Int) == (most : Int)) = false := by simp; omega
            have c13 : decide (n = most) = false := decide_eq_false c1
            go_wp2_with (go_at_call 34; (with_reducible refine (IA.out _ BH.out).mono ?_); rintro e wx ⟨rfl, hwx⟩; have hwx := hwx.symm; subst hwx)
            (try simp only [Exit.inBlock, Exit.then])
            refine bodyPost_ret (res_sp rfl rfl (put2 R1.out _ _)) rfl ?_
            exact ⟨⟨f, a, most, rfl, hD.out⟩, below_put BH.out (Nat.le_refl _) _ _⟩
end Go.Proofs.Ytjhcdkllneeijaa
