/- The walk of dialtonelaw01.WireUnique. -/
import Derived.Test.YtcmeplgkillbdaaDoorUse
import Derived.RegionTactic
import Derived.BigQuiet
import Derived.Deep.QuietTactic
namespace Go.Proofs.YtcmeplgkillbdaaDoor
open Go.RowKit

theorem conv_one (w : World) (b : UInt8) : (convert 38 9 (.slice (some ⟨w.heap.size, 0, none⟩) 1 1)).run Tryd.prog (w.alloc (.cells #[.int .u8 b.toNat] 5)).drew = .ok (.string ⟨#[b]⟩) (w.alloc (.cells #[.int .u8 b.toNat] 5)).drew := by
  refine run_convert_bytes_back _ _ _ 5 _ _ [b] Tryd.underlying38 Tryd.underlying5 Tryd.underlying9 ?_
  intro j hj
  obtain rfl : j = 0 := by simp at hj; omega
  rw [add_head]
  exact (World.cell?_alloc_mark w #[.int .u8 b.toNat] 5 (0, 0) 0).trans rfl
set_option maxRecDepth 100000 in
set_option maxHeartbeats 2000000 in
theorem uniq_walk (s : ByteArray) (hs : s.size ≤ 9223372036854775807) (k : Int) (k1 : -9223372036854775808 ≤ k) (k2 : k ≤ 9223372036854775807) (f : Int) (f1 : 0 ≤ f) (f2 : f ≤ 255)
    (w : World) (htab : Tab w) (hsz : 0 < w.heap.size) :
    Calls Tryd.prog 5 #[.string s, .int .i64 k, .int .u8 f] w fun e w' => e = .returned (.bool true) ∧ Below w.heap.size w w' := by
  have HT := Lib.hid htab; clear htab
  obtain ⟨T, hT1, hT2, -, hT⟩ := min_if s 300 (by omega)
  go_enter Tryd.func5, Tryd.ntmps5
  go_wp2_with fail
  refine (sane_any _ HT.out hsz).mono ?_
  rintro e w1 ⟨rfl, b1⟩
  obtain ⟨fb, rfl⟩ : ∃ b : UInt8, f = (b.toNat : Int) := ⟨UInt8.ofNat f.toNat, by rw [UInt8.toNat_ofNat']; omega⟩
  have hcv := conv_one w1 fb
  go_wp2_with fail
  go_region
  have sT : (({ data := #[fb] } : ByteArray) ++ s.extract 0 T).size = 1 + T := by
    rw [ByteArray.size_append, ext_size s T hT1]; rfl
  generalize (({ data := #[fb] } : ByteArray) ++ s.extract 0 T) = t' at *
  have kT : t'.size ≤ 301 := by omega
  have q1 : Below w.heap.size w (w1.alloc (.cells #[.int .u8 fb.toNat] 5)).drew := (b1.alloc b1.size _).drew
  generalize (w1.alloc (.cells #[.int .u8 fb.toNat] 5)).drew = w2 at *
  clear hT hcv sT b1
  have pK := pickN_in k (t'.size + 1) (by omega)
  obtain ⟨K, hK⟩ := Int.eq_ofNat_of_zero_le pK.1
  have hKle : K ≤ t'.size := by omega
  have HK := Lib.hid hK; clear hK pK
  go_wp2_with fail
  refine (pick_any _ _ _ (by omega) (by omega) (by omega) (by omega)).mono ?_
  rw [HK.out]
  rintro e w3 ⟨rfl, rfl⟩
  have q2 : Below w.heap.size w (w2.alloc (.cells #[.int .i64 0, .int .i64 K] 3)) := q1.alloc q1.size _
  have c0 : (w2.alloc (.cells #[.int .i64 0, .int .i64 K] 3)).cell? ⟨w2.heap.size, 0, none⟩ = some (.int .i64 0) := by rw [World.cell?_alloc_at _ _ _ _ rfl]; rfl
  have c1 : (w2.alloc (.cells #[.int .i64 0, .int .i64 K] 3)).cell? ⟨w2.heap.size, 1, none⟩ = some (.int .i64 K) := by rw [World.cell?_alloc_at _ _ _ _ rfl]; rfl
  have hsz2 := q1.size
  go_wp2_with fail
  go_loopw [38] (fun i wr => ∃ j : Nat, i = .int .i64 j ∧ j ≤ 2 ∧ Below (w2.heap.size + 1) (w2.alloc (.cells #[.int .i64 0, .int .i64 K] 3)) wr) (fun i _ => 2 - (intOf i).toNat)
  case atStart => exact ⟨0, rfl, by omega, Below.refl _ _⟩
  case round =>
    obtain ⟨j, rfl, hj, hbr⟩ := hrel
    by_cases hj2 : j < 2
    · obtain ⟨kk, hkk, hcell⟩ : ∃ kk : Nat, kk ≤ t'.size ∧ wr.cell? ⟨w2.heap.size, j, none⟩ = some (.int .i64 kk) := by
        obtain rfl | rfl : j = 0 ∨ j = 1 := by omega
        · exact ⟨0, by omega, (hbr.cell (p := ⟨w2.heap.size, 0, none⟩) (by simp)).trans c0⟩
        · exact ⟨K, hKle, (hbr.cell (p := ⟨w2.heap.size, 1, none⟩) (by simp)).trans c1⟩
      clear c0 c1
      have hwr := hbr.size
      simp only [World.size_alloc] at hwr
      rcases int_two t' kk hkk with ⟨n, x, hi, n1, n2, x1, x2, hx⟩ | hi
      · obtain ⟨U, eU⟩ : ∃ U : ByteArray, U = ⟨(enc n).toArray⟩ := ⟨_, rfl⟩
        rw [← eU] at hx
        have EU := Lib.hid eU; have HI := Lib.hid hi; clear eU hi
        go_wp2_with fail
        refine (int_any _ _ (by omega) (by omega) (by omega) _).mono ?_
        rw [HI.out]; rintro e w4 ⟨rfl, rfl⟩; dsimp only [intV]
        go_wp2_with fail
        refine (putInt_any _ (by omega) (by omega) _).mono ?_
        rw [putInt_in ⟨n1, n2⟩, ← EU.out]
        rintro e w5 ⟨rfl, b5⟩
        rcases string_two t' kk hkk with ⟨v, y, hi, v1, y1, y2, hy⟩ | hi
        · obtain ⟨V, eV⟩ : ∃ V : ByteArray, V = ⟨(enc v.size ++ v.data.toList).toArray⟩ := ⟨_, rfl⟩
          rw [← eV] at hy
          have EV := Lib.hid eV; have HS := Lib.hid hi; clear eV hi
          go_wp2_with fail
          refine (string_any _ _ (by omega) (by omega) (by omega) _).mono ?_
          rw [HS.out]; rintro e w6 ⟨rfl, b6⟩; dsimp only [strV]
          go_wp2_with fail
          refine (putString_any v (by omega) _).mono ?_
          rw [putString_in v1, ← EV.out]
          rintro e w7 ⟨rfl, b7⟩
          have r5 := hbr.trans (b5.mono hwr)
          have h5 := r5.size
          simp only [World.size_alloc] at h5
          have r6 := r5.trans (b6.mono h5)
          have h6 := r6.size
          simp only [World.size_alloc] at h6
          have r7 := r6.trans (b7.mono h6)
          clear h5 h6 hwr
          go_wp2
          go_roundw
          case rel => exact ⟨j + 1, by go_num, by omega, r7⟩
          case measure => simp [intOf]; omega
        · have HS := Lib.hid hi; clear hi
          go_wp2_with fail
          refine (string_any _ _ (by omega) (by omega) (by omega) _).mono ?_
          rw [HS.out]; rintro e w6 ⟨rfl, b6⟩; dsimp only [strV]
          go_wp2_with fail
          refine (putString_any _ (by decide) _).mono ?_
          rw [putString_in (by decide)]
          rintro e w7 ⟨rfl, b7⟩
          have r5 := hbr.trans (b5.mono hwr)
          have h5 := r5.size
          simp only [World.size_alloc] at h5
          have r6 := r5.trans (b6.mono h5)
          have h6 := r6.size
          simp only [World.size_alloc] at h6
          have r7 := r6.trans (b7.mono h6)
          clear h5 h6 hwr
          go_wp2
          go_roundw
          case rel => exact ⟨j + 1, by go_num, by omega, r7⟩
          case measure => simp [intOf]; omega
      · have HI := Lib.hid hi; clear hi
        go_wp2_with fail
        refine (int_any _ _ (by omega) (by omega) (by omega) _).mono ?_
        rw [HI.out]; rintro e w4 ⟨rfl, rfl⟩; dsimp only [intV]
        go_wp2_with fail
        refine (putInt_any _ (by omega) (by omega) _).mono ?_
        rw [putInt_in (by omega)]
        rintro e w5 ⟨rfl, b5⟩
        rcases string_two t' kk hkk with ⟨v, y, hi, v1, y1, y2, hy⟩ | hi
        · obtain ⟨V, eV⟩ : ∃ V : ByteArray, V = ⟨(enc v.size ++ v.data.toList).toArray⟩ := ⟨_, rfl⟩
          rw [← eV] at hy
          have EV := Lib.hid eV; have HS := Lib.hid hi; clear eV hi
          go_wp2_with fail
          refine (string_any _ _ (by omega) (by omega) (by omega) _).mono ?_
          rw [HS.out]; rintro e w6 ⟨rfl, b6⟩; dsimp only [strV]
          go_wp2_with fail
          refine (putString_any v (by omega) _).mono ?_
          rw [putString_in v1, ← EV.out]
          rintro e w7 ⟨rfl, b7⟩
          have r5 := hbr.trans (b5.mono hwr)
          have h5 := r5.size
          simp only [World.size_alloc] at h5
          have r6 := r5.trans (b6.mono h5)
          have h6 := r6.size
          simp only [World.size_alloc] at h6
          have r7 := r6.trans (b7.mono h6)
          clear h5 h6 hwr
          go_wp2
          go_roundw
          case rel => exact ⟨j + 1, by go_num, by omega, r7⟩
          case measure => simp [intOf]; omega
        · have HS := Lib.hid hi; clear hi
          go_wp2_with fail
          refine (string_any _ _ (by omega) (by omega) (by omega) _).mono ?_
          rw [HS.out]; rintro e w6 ⟨rfl, b6⟩; dsimp only [strV]
          go_wp2_with fail
          refine (putString_any _ (by decide) _).mono ?_
          rw [putString_in (by decide)]
          rintro e w7 ⟨rfl, b7⟩
          have r5 := hbr.trans (b5.mono hwr)
          have h5 := r5.size
          simp only [World.size_alloc] at h5
          have r6 := r5.trans (b6.mono h5)
          have h6 := r6.size
          simp only [World.size_alloc] at h6
          have r7 := r6.trans (b7.mono h6)
          clear h5 h6 hwr
          go_wp2
          go_roundw
          case rel => exact ⟨j + 1, by go_num, by omega, r7⟩
          case measure => simp [intOf]; omega
    · go_wp2
      go_ret
      exact ⟨rfl, q2.trans (hbr.mono (by omega))⟩
end Go.Proofs.YtcmeplgkillbdaaDoor
