/- DiskSynced: its walk. -/
import Derived.Test.YtghcffpcblficaaLv
import Derived.Test.YtghcffpcblficaaSn
namespace Go.Proofs.Ytghcffpcblficaa
open Go.RowKit Go.Lib

theorem crash_none {d : Dk} (t : Int) : crashD d [] t = ⟨d.dur, d.dur, [], false, 0⟩ := by
  have h : crashL d [] t = d.dur := by
    unfold crashL
    rw [surv_none (fun i _ => by simp [inK]), tornL_nil]
    rfl
  unfold crashD
  rw [h]
set_option maxRecDepth 100000 in
set_option maxHeartbeats 16000000 in
theorem sy_walk (size torn : Int) (s1 : In64 size) (l : List Wp) (A : Option Addr) (cap : Nat) (w : World) (hl : WpsC w A l) (hg : ∀ y ∈ l, GoodW y) (h63 : l.length ≤ 9223372036854775807) :
    Calls Try.prog 7 #[.int .i64 size, .slice A l.length cap, .int .i64 torn] w fun e w' => e = .returned (.bool true) ∧ Below w.heap.size w w' := by
  have SAN := Lib.hid sane_any
  obtain ⟨N, z, he, h1, hM, hz0, hpk⟩ : ∃ (N : Nat) (z : Int), (1 : Int) + z = N ∧ 1 ≤ N ∧ N ≤ 300 ∧ (0 ≤ z ∧ z < 300) ∧ ∀ W : World, Calls Try.prog 15 #[.int .i64 size, .int .i64 300] W fun e w' => e = .returned (.int .i64 z) ∧ w' = W := by
    have hl := pkn_lt (c := size) (n := 300) (by decide)
    exact ⟨pkn size 300 + 1, (pkn size 300 : Int), by omega, by omega, by omega, by omega, fun W => pickn_any size 300 s1.1 s1.2 (by decide) (by decide) W⟩
  have PK := Lib.hid hpk
  have NW := Lib.hid (fun W (h : Below w.heap.size w W) => new_ld h N h1 (by omega))
  clear hpk s1
  have hmk : ∀ W : World, (Instr.makeSlice 40 (.int .i64 (N : Int)) (.int .i64 (N : Int))).run Try.prog W = .ok (.slice (some ⟨W.heap.size, 0, none⟩) N N) (W.alloc (.cells (byteCells (List.replicate N 0)).toArray 5)) := fun W => make_bytes W N (by omega)
  obtain ⟨n, hn⟩ : ∃ n, n = l.length := ⟨_, rfl⟩
  rw [← hn] at h63 ⊢
  have HL := Lib.hid hl; have HG := Lib.hid hg; have HN := Lib.hid hn
  clear hl hg hn
  go_enter Try.func7, Try.ntmps7
  go_upto_region 2 with (go_at_call 12; (with_reducible refine (SAN.out _).mono ?_); rintro e w1 ⟨rfl, bs⟩; have B1 := Lib.hid bs; clear bs)
  go_upto_region 6 with first | (go_at_call 15; (with_reducible refine (PK.out _).mono ?_); rintro e w2 ⟨rfl, rfl⟩) | (go_at_call 13; (refine (NW.out _ B1.out).mono ?_); rintro e w3 ⟨g, a, b, rfl, l, _, _, _, _, _, la, lb⟩; have L0 := Lib.hid l; clear l)
  go_upto_region 7 with (fail)
  obtain ⟨W4, hW4⟩ : ∃ W, W = w3.alloc (.cells (byteCells (List.replicate N 0)).toArray 5) := ⟨_, rfl⟩
  rw [← hW4]
  have lb0 : Lb w W4 g a b w3.heap.size N (newD N) (List.replicate N 0) := by
    rw [hW4]
    exact ⟨L0.out.step (below_alloc _ _), Row.made _ _ _, fun e => by omega, fun e => by omega, L0.out.bel.size, zeros_len N, by simp⟩
  obtain ⟨gb, hgb⟩ : ∃ gb, gb = w3.heap.size := ⟨_, rfl⟩
  rw [← hgb] at lb0 ⊢
  have LB := Lib.hid lb0
  clear lb0 hW4 hgb hmk la lb L0 NW SAN PK he hz0
  have cv0 : (convert 40 9 (.slice (some ⟨gb, 0, none⟩) N N)).run Try.prog W4 = .ok (.string (strB (newD N).dur)) W4 := by
    have hc := conv_bytes (cap := N) LB.out.r (o := 0) (k := N) (by simp) 40 Try.underlying40
    rw [List.drop_zero, List.take_of_length_le (by simp)] at hc
    exact hc
  go_upto_region 8 with (fail)
  clear cv0
  go_wp2
  go_loopg [11, 12, 13] n (fun kx s11 s12 s13 wr => ∃ (k : Nat) (d : Dk) (buf : List UInt8), s12 = .int .i64 (k : Int) ∧ k + kx = n ∧ k ≤ 60 ∧ s11 = .string (strB d.dur) ∧ Lb w wr g a b gb N d buf ∧ (d.vis = buf ∧ d.lost = false ∧ d.left = 0 ∧ d.pend.length ≤ k))
  case atStart => exact ⟨0, newD N, List.replicate N 0, rfl, by omega, by omega, rfl, LB.out, rfl, rfl, rfl, by simp [newD]⟩
  case round =>
    clear LB
    obtain ⟨k, d, buf, rfl, hk, hk60, rfl, hM, hv, hlo, hle, hpl⟩ := hrel
    by_cases hlt : k < n ∧ k < 60
    · obtain ⟨hlt, hlt2⟩ := hlt
      obtain ⟨SU, hSU⟩ : ∃ SU, SU = strB d.dur := ⟨_, rfl⟩
      rw [← hSU]
      have HSU := Lib.hid hSU
      clear hSU
      obtain ⟨p, hpk⟩ : ∃ p, l[k]? = some p := at_lt (by rw [← HN.out]; exact hlt)
      have hgd := HG.out p (List.mem_of_getElem? hpk)
      obtain ⟨bb, o, rfl, e0, e1, e2⟩ := HL.out.at hM.l.bel hpk
      obtain ⟨po, ps, y⟩ := p
      obtain ⟨⟨g1, g2⟩, g3⟩ := hgd
      dsimp only at e0 e1 e2 g1 g2 g3
      have hft := fun W => fits_any po ps y N g1 g2 g3 (by omega) W
      have hpf := fitP_fit N po ps
      obtain ⟨q, hq⟩ : ∃ q, q = fitP N po ps := ⟨_, rfl⟩
      rw [← hq] at hft hpf
      obtain ⟨qo, qs⟩ := q
      dsimp only at hft hpf
      have FT := Lib.hid hft; have HQ := Lib.hid hq; have HPK := Lib.hid hpk
      have kLi : (k : Int) < (n : Int) := by omega
      have kLj : (k : Int) < 60 := by omega
      clear hft hq hpk
      go_upto_region 13 with (go_at_call 26; (with_reducible refine (FT.out _).mono ?_); rintro e w5 ⟨rfl, b5⟩; have B5 := Lib.hid b5; clear b5)
      obtain ⟨W1, hW1⟩ : ∃ W1, W1 = w5.alloc (.cells #[.int .i64 qo, .string qs, .bool y] 53) := ⟨_, rfl⟩
      rw [← hW1]
      have rb : Row W1 w5.heap.size 53 #[.int .i64 qo, .string qs, .bool y] := by rw [hW1]; exact Row.made _ _ _
      have b6 : Below wr.heap.size wr W1 := by rw [hW1]; exact keep_alloc B5.out _
      obtain ⟨vb, hvb⟩ : ∃ vb, vb = w5.heap.size := ⟨_, rfl⟩
      rw [← hvb] at rb ⊢
      obtain ⟨x0, x1, x2, _, _, _⟩ := rb.three
      have RB := Lib.hid rb; have B6 := Lib.hid b6
      clear hW1 rb b6 e0 e1 e2 B5 FT hvb
      have m1 := hM.step B6.out
      have pt := put_any gb N N buf m1.hl (by omega) qo qs hpf W1 m1.r
      have HP := Lib.hid pt; have M1 := Lib.hid m1
      clear pt m1 hM
      go_upto_region 13 with (go_at_call 27; (with_reducible refine (HP.out).mono ?_); rintro e w6 ⟨rfl, rp, kp⟩; have RP := Lib.hid rp; have KP := Lib.hid kp; clear rp kp)
      have m2 := M1.out.fill (buf' := putB buf (qo, qs)) KP.out RP.out (by rw [putB_len (by rw [M1.out.hl]; exact hpf)]; exact M1.out.hl)
      have rb2 : Row w6 vb 53 #[.int .i64 qo, .string qs, .bool y] := RB.out.kept KP.out (fun e => RB.out.ne M1.out.r (by decide) e)
      clear x0 x1 x2
      obtain ⟨x0, x1, x2, _, _, _⟩ := rb2.three
      obtain ⟨hE, hD⟩ := write_ok (p := (qo, qs)) hlo hle (by rw [m2.hn]; exact hpf)
      have hw := m2.l.write (by omega) qo (by omega) (by have := m2.l.ok.small; have := m2.hn; omega) qs (by have := m2.l.ok.small; have := m2.hn; omega)
      rw [hE, hD] at hw
      obtain ⟨d2, hd2⟩ : ∃ d2, d2 = ({ d with vis := putB d.vis (qo, qs), pend := d.pend ++ [(qo, qs)] } : Dk) := ⟨_, rfl⟩
      rw [← hd2] at hw
      have hfacts : d2.dur.length = N ∧ d2.vis = putB buf (qo, qs) ∧ d2.lost = false ∧ d2.left = 0 ∧ d2.pend.length ≤ k + 1 ∧ d2.dur = d.dur := by
        rw [hd2]; exact ⟨m2.hn, by rw [← hv], hlo, hle, by simp; exact hpl, rfl⟩
      obtain ⟨f1, f2, f3, f4, f5, f6⟩ := hfacts
      have HW := Lib.hid hw; have M2 := Lib.hid m2; have RB2 := Lib.hid rb2; have F2 := Lib.hid f2; have F3 := Lib.hid f3; have F4 := Lib.hid f4; have F1 := Lib.hid f1; have F6 := Lib.hid f6
      clear hw m2 rb2 hE hD hd2 f1 f2 f3 f4 f6 hv hlo hle hpl RB HP RP KP M1
      obtain ⟨nb, hnb⟩ : ∃ nb, nb = putB buf (qo, qs) := ⟨_, rfl⟩
      rw [← hnb] at M2 F2
      clear hnb
      cases y with
      | false =>
        go_upto_region 15 with (go_at_call 21; (with_reducible refine (HW.out).mono ?_); rintro e w7 ⟨rfl, l7, st⟩; have M3 := Lib.hid (M2.out.turn l7 st F1.out); have rb3 := st.box RB2.out; clear l7 st x0 x1 x2; obtain ⟨x0, x1, x2, _, _, _⟩ := rb3.three; clear rb3)
        go_wp2
        go_roundg (n - (k + 1))
        case measure => omega
        case rel => exact ⟨k + 1, d2, nb, by go_num, by omega, by omega, by rw [F6.out, HSU.out], M3.out, F2.out, F3.out, F4.out, f5⟩
      | true =>
        go_upto_region 15 with first | (go_at_call 21; (with_reducible refine (HW.out).mono ?_); rintro e w7 ⟨rfl, l7, st⟩; have m3 := M2.out.turn l7 st F1.out; have rb3 := st.box RB2.out; have hsy := m3.l.sync; rw [show readyE d2 = 0 by (unfold readyE; rw [F3.out]; rfl), show syncD d2 = { d2 with dur := d2.vis, pend := [] } by (unfold syncD; rw [F3.out]; rfl)] at hsy; have SY := Lib.hid hsy; have M3 := Lib.hid m3; have RB3 := Lib.hid rb3; clear l7 st x0 x1 x2 hsy m3; obtain ⟨x0, x1, x2, _, _, _⟩ := rb3.three; clear rb3) | (go_at_call 23; (with_reducible refine (SY.out).mono ?_); rintro e w8 ⟨rfl, l8, st⟩; have M4 := Lib.hid (M3.out.turn l8 st (by show d2.vis.length = N; rw [M3.out.l.ok.len, F1.out])); have rb4 := st.box RB3.out; clear l8 st x0 x1 x2; obtain ⟨x0, x1, x2, _, _, _⟩ := rb4.three; clear rb4)
        have cv : (convert 40 9 (.slice (some ⟨gb, 0, none⟩) N N)).run Try.prog w8 = .ok (.string (strB nb)) w8 := by
          have hc := conv_bytes (cap := N) M4.out.r (o := 0) (k := N) (by rw [M4.out.hl]; omega) 40 Try.underlying40
          rw [List.drop_zero, List.take_of_length_le (by rw [M4.out.hl]; exact Nat.le_refl _)] at hc
          exact hc
        go_wp2
        go_roundg (n - (k + 1))
        case measure => omega
        case rel => exact ⟨k + 1, { d2 with dur := d2.vis, pend := [] }, nb, by go_num, by omega, by omega, by show _ = Value.string (strB d2.vis); rw [F2.out], M4.out, F2.out, F3.out, F4.out, Nat.zero_le _⟩
    · have hcr := hM.l.crash (by omega) none 0 [] (.inl rfl) (by decide) torn
      rw [crash_none, List.length_nil] at hcr
      obtain ⟨d9, hd9⟩ : ∃ d9 : Dk, d9 = ⟨d.dur, d.dur, [], false, 0⟩ := ⟨_, rfl⟩
      rw [← hd9] at hcr
      have q1 : d9.lost = false ∧ d9.dur.length = N ∧ d9.vis = d.dur ∧ d9.pend.length = 0 := by rw [hd9]; exact ⟨rfl, hM.hn, rfl, rfl⟩
      obtain ⟨q1, q2, q3, q4⟩ := q1
      obtain ⟨SU, hSU⟩ : ∃ SU, SU = strB d.dur := ⟨_, rfl⟩
      rw [← hSU]
      have HCR := Lib.hid hcr; have Q1 := Lib.hid q1; have Q2 := Lib.hid q2; have Q3 := Lib.hid q3; have Q4 := Lib.hid q4; have HSU := Lib.hid hSU
      clear hM hv hlo hle hpl hcr hd9 q1 q2 q3 q4 hSU
      have cond : (k < n → 60 ≤ k) := fun h => by omega
      clear hlt
      have rest : Hid (∀ (W : World), Ld w W g a b d9 → (Calls Try.prog 14 #[.pointer (some ⟨g, 0, none⟩), .int .i64 0, .int .i64 N] W fun e w' => e = .returned (.tuple #[.string SU, .int .i64 0]) ∧ w' = W) ∧ (Calls Try.prog 17 #[.pointer (some ⟨g, 0, none⟩)] W fun e w' => e = .returned (.int .i64 0) ∧ w' = W)) := Lib.hid fun W hW => by
        have hr := hW.read 0 N (by decide) (by decide)
        obtain ⟨r1, r2⟩ := read_all hW.ok Q1.out Q2.out
        rw [r1, r2, Q3.out, ← HSU.out] at hr
        have hp := hW.pending
        rw [Q4.out] at hp
        exact ⟨hr, hp⟩
      by_cases h1 : k < n
      · obtain rfl : k = 60 := by have := cond h1; omega
        have h2 : (60 : Int) < (n : Int) := by omega
        clear cond
        go_upto_region 18 with (go_at_call 25; (with_reducible refine (HCR.out).mono ?_); rintro e w7 ⟨rfl, l7, _⟩; have R := rest.out _ l7; have R1 := Lib.hid R.1; have R2 := Lib.hid R.2; have L7 := Lib.hid l7; clear R l7)
        go_wp2_with first | (go_at_call 14; (with_reducible refine (R1.out).mono ?_); rintro e w8 ⟨rfl, rfl⟩) | (go_at_call 17; (with_reducible refine (R2.out).mono ?_); rintro e w8 ⟨rfl, rfl⟩)
        go_ret
        exact ⟨rfl, L7.out.bel⟩
      · obtain rfl : k = n := by omega
        clear cond
        go_upto_region 18 with (go_at_call 25; (with_reducible refine (HCR.out).mono ?_); rintro e w7 ⟨rfl, l7, _⟩; have R := rest.out _ l7; have R1 := Lib.hid R.1; have R2 := Lib.hid R.2; have L7 := Lib.hid l7; clear R l7)
        go_wp2_with first | (go_at_call 14; (with_reducible refine (R1.out).mono ?_); rintro e w8 ⟨rfl, rfl⟩) | (go_at_call 17; (with_reducible refine (R2.out).mono ?_); rintro e w8 ⟨rfl, rfl⟩)
        go_ret
        exact ⟨rfl, L7.out.bel⟩
end Go.Proofs.Ytghcffpcblficaa
