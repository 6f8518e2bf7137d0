/- DiskNewMatches: its walk. -/
import Derived.Test.YtghcffpcblficaaSn
namespace Go.Proofs.Ytghcffpcblficaa
open Go.RowKit Go.Lib

theorem new_reads {n k : Nat} (hk : k < n) : readS (newD n) k 1 = ⟨#[0]⟩ ∧ readE (newD n) k 1 = 0 := by
  have hh : hasB (newD n).dur.length k 1 = true := by rw [hasB_iff, zeros_len]; omega
  have hE : readE (newD n) k 1 = 0 := by unfold readE; rw [hh]; rfl
  refine ⟨?_, hE⟩
  unfold readS
  rw [hE]
  show strB ((List.drop (k : Int).toNat (List.replicate n 0)).take 1) = _
  rw [Int.toNat_natCast, List.drop_replicate, List.take_replicate, show min 1 (n - k) = 1 by omega]
  rfl
set_option maxRecDepth 100000 in
set_option maxHeartbeats 8000000 in
theorem newm_walk (n at' : Int) (n1 : In64 n) (a1 : In64 at') (w : World) :
    Calls Try.prog 3 #[.int .i64 n, .int .i64 at'] w fun e w' => e = .returned (.bool true) ∧ Below w.heap.size w w' := by
  have SAN := Lib.hid sane_any
  by_cases hn : 1 ≤ n ∧ n ≤ 4194304
  · obtain ⟨h1, h2⟩ := hn
    obtain ⟨N, rfl⟩ : ∃ N : Nat, n = N := ⟨n.toNat, by omega⟩
    have NW := Lib.hid (fun W (h : Below w.heap.size w W) => new_ld h N (by omega) (by omega))
    have PK := Lib.hid (fun W => pickn_any at' N a1.1 a1.2 (by omega) (by omega) W)
    have hlt := pkn_lt (c := at') (n := N) (by omega)
    generalize pkn at' N = k at *
    obtain ⟨hS, hE⟩ := new_reads hlt
    have hP : (newD N).pend.length = 0 := rfl
    have hL := zeros_len N
    have x1 : ¬ (N : Int) < 1 := by omega
    have x2 : ¬ (4194304 : Int) < N := by omega
    have RS := Lib.hid hS; have RE := Lib.hid hE; have HP := Lib.hid hP; have HL := Lib.hid hL
    clear hS hE hP hL n1 a1
    go_enter Try.func3, Try.ntmps3
    go_upto_region 2 with (go_at_call 12; (with_reducible refine (SAN.out _).mono ?_); rintro e w1 ⟨rfl, b1⟩; have B1 := Lib.hid b1; clear b1)
    go_upto_region 7 with (go_at_call 13; (refine (NW.out _ B1.out).mono ?_); rintro e w2 ⟨g, a, b, rfl, l, _⟩; have L0 := Lib.hid l; clear l)
    have hr := L0.out.read k 1 (by omega) (by omega)
    rw [RS.out, RE.out] at hr
    have hz := L0.out.size
    rw [HL.out] at hz
    have hp := L0.out.pending
    rw [HP.out] at hp
    have HR := Lib.hid hr; have HZ := Lib.hid hz; have HQ := Lib.hid hp
    clear hr hz hp
    go_wp2_with first | (go_at_call 15; (with_reducible refine (PK.out _).mono ?_); rintro e w3 ⟨rfl, rfl⟩) | (go_at_call 14; (with_reducible refine (HR.out).mono ?_); rintro e w3 ⟨rfl, rfl⟩) | (go_at_call 16; (with_reducible refine (HZ.out).mono ?_); rintro e w3 ⟨rfl, rfl⟩) | (go_at_call 17; (with_reducible refine (HQ.out).mono ?_); rintro e w3 ⟨rfl, rfl⟩)
    go_ret
    exact ⟨rfl, L0.out.bel⟩
  · have NB := Lib.hid (fun W => new_bad n hn W)
    by_cases h1 : n < 1
    · clear hn
      go_enter Try.func3, Try.ntmps3
      go_upto_region 2 with (go_at_call 12; (with_reducible refine (SAN.out _).mono ?_); rintro e w1 ⟨rfl, b1⟩; have B1 := Lib.hid b1; clear b1)
      go_wp2_with (go_at_call 13; (with_reducible refine (NB.out _).mono ?_); rintro e w2 ⟨rfl, rfl⟩)
      go_ret
      exact ⟨rfl, B1.out⟩
    · have h2 : 4194304 < n := by omega
      clear hn
      go_enter Try.func3, Try.ntmps3
      go_upto_region 2 with (go_at_call 12; (with_reducible refine (SAN.out _).mono ?_); rintro e w1 ⟨rfl, b1⟩; have B1 := Lib.hid b1; clear b1)
      go_wp2_with (go_at_call 13; (with_reducible refine (NB.out _).mono ?_); rintro e w2 ⟨rfl, rfl⟩)
      go_ret
      exact ⟨rfl, B1.out⟩
end Go.Proofs.Ytghcffpcblficaa
