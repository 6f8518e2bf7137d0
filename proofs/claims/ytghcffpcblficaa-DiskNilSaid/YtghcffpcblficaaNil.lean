/- DiskNil: its walk. -/
import Derived.Test.YtghcffpcblficaaSn
namespace Go.Proofs.Ytghcffpcblficaa
open Go.RowKit Go.Lib

set_option maxRecDepth 100000 in
set_option maxHeartbeats 8000000 in
theorem nil_walk (off n : Int) (s : ByteArray) (A : Option Addr) (K cap : Nat) (hs : s.size ≤ 9223372036854775807) (hK : K ≤ cap) (hc : cap ≤ 9223372036854775807) (w : World) :
    Calls Try.prog 5 #[.int .i64 off, .int .i64 n, .string s, .slice A K cap] w fun e w' => e = .returned (.bool true) ∧ Below w.heap.size w w' := by
  obtain ⟨m, hm, hmk⟩ : ∃ m : Nat, m ≤ K ∧ ∀ w : World, (Builtin.min_ #[3, 3] 3 #[.int .i64 K, .int .i64 100]).run Try.prog w = .ok (.int .i64 (m : Int)) w := by
    refine ⟨min K 100, by omega, fun w => ?_⟩
    simp only [Builtin.min_, List.foldlM_cons, List.foldlM_nil, Builtin.min2, pure_bind, bind_pure]
    simp only [Sem.run_pure]
    congr 2
    split <;> omega
  have SAN := Lib.hid sane_any
  have CS : Hid (∀ W : World, Calls Try.prog 22 #[.string s, .int .i64 100] W fun e w' => e = .returned (.string (cutB s 100)) ∧ w' = W) := Lib.hid (fun W => cut_s s 100 hs W)
  have hm2 : m ≤ cap := by omega
  go_enter Try.func5, Try.ntmps5
  go_upto_region 2 with (go_at_call 12; (with_reducible refine (SAN.out _).mono ?_); rintro e w1 ⟨rfl, b1⟩; have B1 := Lib.hid b1; clear b1)
  go_upto_region 4 with (go_at_call 14; (with_reducible refine (read_nil _ _ _).mono ?_); rintro e w2 ⟨rfl, rfl⟩)
  go_wp2_with first | (go_at_call 22; (with_reducible refine (CS.out _).mono ?_); rintro e w3 ⟨rfl, rfl⟩) | (go_at_call 21; (with_reducible refine (write_nil _ _ _).mono ?_); rintro e w3 ⟨rfl, rfl⟩) | (go_at_call 23; (with_reducible refine (sync_nil _).mono ?_); rintro e w3 ⟨rfl, rfl⟩) | (go_at_call 24; (with_reducible refine (cut_nil _ _).mono ?_); rintro e w3 ⟨rfl, rfl⟩) | (go_at_call 25; (with_reducible refine (crash_nil _ _ _ _ _).mono ?_); rintro e w3 ⟨rfl, rfl⟩) | (go_at_call 17; (with_reducible refine (pending_nil _).mono ?_); rintro e w3 ⟨rfl, rfl⟩) | (go_at_call 16; (with_reducible refine (size_nil _).mono ?_); rintro e w3 ⟨rfl, rfl⟩)
  go_ret
  exact ⟨rfl, B1.out⟩
end Go.Proofs.Ytghcffpcblficaa
