/- DiskAllSurvive: its walk. -/
import Derived.Test.YtghcffpcblficaaLv
import Derived.Test.YtghcffpcblficaaSn
namespace Go.Proofs.Ytghcffpcblficaa
open Go.RowKit Go.Lib

set_option maxRecDepth 100000 in
set_option maxHeartbeats 16000000 in
theorem al_walk (size : Int) (s1 : In64 size) (l : List Wp) (A : Option Addr) (cap : Nat) (w : World) (hl : WpsC w A l) (hg : ∀ y ∈ l, GoodW y) (h63 : l.length ≤ 9223372036854775807) :
    Calls Try.prog 9 #[.int .i64 size, .slice A l.length cap] w fun e w' => e = .returned (.bool true) ∧ Below w.heap.size w w' := by
  have SAN := Lib.hid sane_any
  obtain ⟨N, z, he, h1, hM, hz0, hpk⟩ : ∃ (N : Nat) (z : Int), (1 : Int) + z = N ∧ 1 ≤ N ∧ N ≤ 300 ∧ (0 ≤ z ∧ z < 300) ∧ ∀ W : World, Calls Try.prog 15 #[.int .i64 size, .int .i64 300] W fun e w' => e = .returned (.int .i64 z) ∧ w' = W := by
    have hl := pkn_lt (c := size) (n := 300) (by decide)
    exact ⟨pkn size 300 + 1, (pkn size 300 : Int), by omega, by omega, by omega, by omega, fun W => pickn_any size 300 s1.1 s1.2 (by decide) (by decide) W⟩
  have PK := Lib.hid hpk
  have NW := Lib.hid (fun W (h : Below w.heap.size w W) => new_ld h N h1 (by omega))
  clear hpk s1
  obtain ⟨n, hn⟩ : ∃ n, n = l.length := ⟨_, rfl⟩
  rw [← hn] at h63 ⊢
  obtain ⟨j0, kj, kz0, kz1, kz2⟩ := info_parts int_info
  have HL := Lib.hid hl; have HG := Lib.hid hg; have HN := Lib.hid hn; have INF := Lib.hid (And.intro kj (And.intro kz0 (And.intro kz1 kz2)))
  clear hl hg hn kj kz0 kz1 kz2
  go_enter Try.func9, Try.ntmps9
  go_upto_region 2 with (go_at_call 12; (with_reducible refine (SAN.out _).mono ?_); rintro e w1 ⟨rfl, bs⟩; have B1 := Lib.hid bs; clear bs)
  go_upto_region 6 with first | (go_at_call 15; (with_reducible refine (PK.out _).mono ?_); rintro e w2 ⟨rfl, rfl⟩) | (go_at_call 13; (refine (NW.out _ B1.out).mono ?_); rintro e w3 ⟨g, a, b, rfl, l, _, _, _, _, _, la, lb⟩; have L0 := Lib.hid l; clear l)
  have HNL := Lib.hid (zeros_len N)
  clear NW SAN PK he hz0 la lb
  go_wp2
  go_loopg [8, 9] n (fun kx s8 s9 wr => ∃ (k : Nat) (d : Dk), s8 = .int .i64 (k : Int) ∧ k + kx = n ∧ k ≤ 60 ∧ Ld w wr g a b d ∧ (d.dur.length = N ∧ d.lost = false ∧ d.left = 0 ∧ d.pend.length ≤ k))
  case atStart => exact ⟨0, newD N, rfl, by omega, by omega, L0.out, HNL.out, rfl, rfl, by simp [newD]⟩
  case round =>
    clear L0
    obtain ⟨k, d, rfl, hk, hk60, hM, hdl, hlo, hle, hpl⟩ := hrel
    by_cases hlt : k < n ∧ k < 60
    · obtain ⟨hlt, hlt2⟩ := hlt
      obtain ⟨p, hpk⟩ : ∃ p, l[k]? = some p := at_lt (by rw [← HN.out]; exact hlt)
      have hgd := HG.out p (List.mem_of_getElem? hpk)
      obtain ⟨bb, o, rfl, e0, e1, e2⟩ := HL.out.at hM.bel hpk
      obtain ⟨po, ps, y⟩ := p
      obtain ⟨⟨g1, g2⟩, g3⟩ := hgd
      dsimp only at e0 e1 e2 g1 g2 g3
      have hft := fun W => fits_any po ps y N g1 g2 g3 (by omega) W
      have hpf := fitP_fit N po ps
      obtain ⟨q, hq⟩ : ∃ q, q = fitP N po ps := ⟨_, rfl⟩
      rw [← hq] at hft hpf
      obtain ⟨qo, qs⟩ := q
      dsimp only at hft hpf
      have FT := Lib.hid hft; have HQ := Lib.hid hq; have HPK := Lib.hid hpk
      have kLi : (k : Int) < (n : Int) := by omega
      have kLj : (k : Int) < 60 := by omega
      clear hft hq hpk
      go_upto_region 10 with (go_at_call 26; (with_reducible refine (FT.out _).mono ?_); rintro e w5 ⟨rfl, b5⟩; have B5 := Lib.hid b5; clear b5)
      obtain ⟨W1, hW1⟩ : ∃ W1, W1 = w5.alloc (.cells #[.int .i64 qo, .string qs, .bool y] 53) := ⟨_, rfl⟩
      rw [← hW1]
      have rb : Row W1 w5.heap.size 53 #[.int .i64 qo, .string qs, .bool y] := by rw [hW1]; exact Row.made _ _ _
      have b6 : Below wr.heap.size wr W1 := by rw [hW1]; exact keep_alloc B5.out _
      obtain ⟨vb, hvb⟩ : ∃ vb, vb = w5.heap.size := ⟨_, rfl⟩
      rw [← hvb] at rb ⊢
      obtain ⟨x0, x1, x2, _, _, _⟩ := rb.three
      have RB := Lib.hid rb; have B6 := Lib.hid b6
      clear hW1 rb b6 e0 e1 e2 B5 FT hvb
      have m2 := hM.step B6.out
      obtain ⟨hE, hD⟩ := write_ok (p := (qo, qs)) hlo hle (by rw [hdl]; exact hpf)
      have hw := m2.write (by omega) qo (by omega) (by have := m2.ok.small; omega) qs (by have := m2.ok.small; omega)
      rw [hE, hD] at hw
      obtain ⟨d2, hd2⟩ : ∃ d2, d2 = ({ d with vis := putB d.vis (qo, qs), pend := d.pend ++ [(qo, qs)] } : Dk) := ⟨_, rfl⟩
      rw [← hd2] at hw
      have hfacts : d2.dur.length = N ∧ d2.lost = false ∧ d2.left = 0 ∧ d2.pend.length ≤ k + 1 := by
        rw [hd2]; exact ⟨hdl, hlo, hle, by simp; exact hpl⟩
      obtain ⟨f1, f3, f4, f5⟩ := hfacts
      have HW := Lib.hid hw; have F3 := Lib.hid f3; have F4 := Lib.hid f4; have F1 := Lib.hid f1
      clear hw m2 hE hD hd2 f1 f3 f4 hlo hle hpl hdl hM
      cases y with
      | false =>
        go_wp2_with (go_at_call 21; (with_reducible refine (HW.out).mono ?_); rintro e w7 ⟨rfl, l7, st⟩; have M3 := Lib.hid l7; have rb3 := st.box RB.out; clear l7 st x0 x1 x2; obtain ⟨x0, x1, x2, _, _, _⟩ := rb3.three; clear rb3)
        go_roundg (n - (k + 1))
        case measure => omega
        case rel => exact ⟨k + 1, d2, by go_num, by omega, by omega, M3.out, F1.out, F3.out, F4.out, f5⟩
      | true =>
        go_wp2_with first | (go_at_call 21; (with_reducible refine (HW.out).mono ?_); rintro e w7 ⟨rfl, l7, st⟩; have rb3 := st.box RB.out; have hsy := l7.sync; rw [show readyE d2 = 0 by (unfold readyE; rw [F3.out]; rfl), show syncD d2 = { d2 with dur := d2.vis, pend := [] } by (unfold syncD; rw [F3.out]; rfl)] at hsy; have SY := Lib.hid hsy; have M3 := Lib.hid l7; clear l7 st x0 x1 x2 hsy; obtain ⟨x0, x1, x2, _, _, _⟩ := rb3.three; clear rb3) | (go_at_call 23; (with_reducible refine (SY.out).mono ?_); rintro e w8 ⟨rfl, l8, st⟩; have M4 := Lib.hid l8; clear l8 st)
        go_roundg (n - (k + 1))
        case measure => omega
        case rel => exact ⟨k + 1, { d2 with dur := d2.vis, pend := [] }, by go_num, by omega, by omega, M4.out, by (show d2.vis.length = N; rw [M3.out.ok.len, F1.out]), F3.out, F4.out, Nat.zero_le _⟩
    · have cond : (k < n → 60 ≤ k) := fun h => by omega
      clear hlt
      have hvl : d.vis.length = N := by rw [hM.ok.len, hdl]
      obtain ⟨S, hS⟩ : ∃ S, S = strB d.vis := ⟨_, rfl⟩
      have hr := hM.read 0 N (by decide) (by decide)
      obtain ⟨r1, r2⟩ := read_all hM.ok hlo hdl
      rw [r1, r2, ← hS] at hr
      obtain ⟨P, hP⟩ : ∃ P, P = d.pend.length := ⟨_, rfl⟩
      have hca := crash_all hM.ok
      obtain ⟨d8, hd8⟩ : ∃ d8 : Dk, d8 = ⟨d.vis, d.vis, [], false, 0⟩ := ⟨_, rfl⟩
      rw [← hd8] at hca
      have hc8 : crashD d8 [] 0 = d8 := by rw [crash_none, hd8]
      have rd8 : ∀ W : World, Ld w W g a b d8 → Calls Try.prog 14 #[.pointer (some ⟨g, 0, none⟩), .int .i64 0, .int .i64 N] W fun e w' => e = .returned (.tuple #[.string S, .int .i64 0]) ∧ w' = W := fun W hW => by
        have hr := hW.read 0 N (by decide) (by decide)
        have q : d8.lost = false ∧ d8.dur.length = N ∧ d8.vis = d.vis := by rw [hd8]; exact ⟨rfl, hvl, rfl⟩
        obtain ⟨r1, r2⟩ := read_all hW.ok q.1 q.2.1
        rw [r1, r2, q.2.2, ← hS] at hr
        exact hr
      have p8 : d8.pend.length ≤ 1000 := by rw [hd8]; exact Nat.zero_le _
      rw [← hP] at hca hpl
      have HR := Lib.hid hr; have HCA := Lib.hid hca; have HC8 := Lib.hid hc8; have RD8 := Lib.hid rd8; have HP := Lib.hid hP; have MM := Lib.hid hM; have P8 := Lib.hid p8
      have hp60 : P ≤ 60 := by omega
      clear hr r1 r2 hca hd8 hc8 rd8 hP hS hM hlo hle hdl hvl hpl p8
      have pen : ∀ W : World, Ld w W g a b d → Calls Try.prog 17 #[.pointer (some ⟨g, 0, none⟩)] W fun e w' => e = .returned (.int .i64 P) ∧ w' = W := fun W hW => by
        have := hW.pending
        rw [← HP.out] at this
        exact this
      have PEN := Lib.hid pen
      clear pen
      have h160 : k < n → k = 60 := fun h => by have := cond h; omega
      clear cond
      by_cases h1 : k < n
      · have h2 := h160 h1
        subst h2
        have h2 : (60 : Int) < (n : Int) := by omega
        clear h160
        go_upto_region 13 with (go_at_call 14; (with_reducible refine (HR.out).mono ?_); rintro e w6 ⟨rfl, rfl⟩)
        rename_i wz
        go_wp2_with (go_at_call 17; fail)
        go_loopg [12, 13] P (fun kx s12 s13 wq => ∃ (i : Nat) (VA : Option Addr) (vc : Nat), s13 = .int .i64 (i : Int) ∧ i + kx = P ∧ s12 = .slice VA i vc ∧ wq.ownsRow w.heap.size 3 1 (.slice VA i vc) i (iV (upto i)) ∧ Ld w wq g a b d)
        case atStart => exact ⟨0, none, 0, rfl, by omega, rfl, World.ownsRow_nil _ _ _ _, MM.out⟩
        case round =>
          obtain ⟨i, VA, vc, rfl, hi, rfl, hO, hL⟩ := hrel
          have hp := PEN.out _ hL
          have HPE := Lib.hid hp; have LL := Lib.hid hL
          clear hp hL
          by_cases hlt : i < P
          · have hiP : (i : Int) < (P : Int) := by omega
            go_upto_region 17 with (go_at_call 17; (with_reducible refine (HPE.out).mono ?_); rintro e w7 ⟨rfl, rfl⟩)
            rename_i wy
            have own2 : (w7.alloc (.cells #[.int .i64 (i : Int)] 3)).ownsRow w.heap.size 3 1 (.slice VA i vc) i (iV (upto i)) := hO.alloc _
            have l2 := LL.out.step (below_alloc w7 (.cells #[.int .i64 (i : Int)] 3))
            have hnew := new_at w7 3 [.int .i64 (i : Int)]
            have hbase := l2.bel.size
            have OWN := Lib.hid own2; have L2 := Lib.hid l2; have HNEW := Lib.hid hnew
            clear own2 l2 hnew hO
            go_wp2_with (at_builtin; go_loud (refine wpList_append_own _ rfl _ _ 37 rfl w.heap.size 3 j0 (.int .i64 0) 1 8 Try.underlying37 INF.out.1 INF.out.2.1 INF.out.2.2.1 INF.out.2.2.2 rfl (by decide) _ _ _ rfl OWN.out ⟨w7.heap.size, 0, none⟩ 1 1 [.int .i64 (i : Int)] rfl rfl HNEW.out (by intro u hu; simp only [List.mem_cons, List.not_mem_nil, or_false] at hu; subst hu; rfl) (by unfold maxLen; omega) (by omega) hbase ?_); intro v' w10 own8 hg8 _; obtain ⟨g', cap', rfl⟩ := ownsRow_succ own8; have N8 := Lib.hid (L2.out.ints OWN.out (Nat.le_refl _) hg8); have O8 := Lib.hid own8; clear own8 hg8)
            go_roundg (P - (i + 1))
            case measure => omega
            case rel => exact ⟨i + 1, some ⟨g', 0, none⟩, cap', by go_num, by omega, rfl, by rw [upto_succ]; simpa [iV] using O8.out, N8.out⟩
          · obtain rfl : i = P := by omega
            have hcr := LL.out.crash (by rw [← HP.out]; omega) VA vc (upto i) (own_nums hO) (by rw [upto_len]; omega) (-1)
            rw [upto_len, HCA.out] at hcr
            have HCR := Lib.hid hcr
            clear hcr hO hlt
            go_upto_region 19 with first | (go_at_call 17; (with_reducible refine (HPE.out).mono ?_); rintro e w7 ⟨rfl, rfl⟩) | (go_at_call 25; (with_reducible refine (HCR.out).mono ?_); rintro e w8 ⟨rfl, l8, _⟩; have L8 := Lib.hid l8; clear l8)
            have r8 := RD8.out _ L8.out
            have hcs := L8.out.crash P8.out none 0 [] (.inl rfl) (by decide) 0
            rw [HC8.out, List.length_nil] at hcs
            have R8 := Lib.hid r8; have CS := Lib.hid hcs
            clear r8 hcs
            go_upto_region 21 with first | (go_at_call 14; (with_reducible refine (R8.out).mono ?_); rintro e w9 ⟨rfl, rfl⟩) | (go_at_call 25; (with_reducible refine (CS.out).mono ?_); rintro e w10 ⟨rfl, l9, _⟩; have L9 := Lib.hid l9; clear l9)
            have r9 := RD8.out _ L9.out
            have R9 := Lib.hid r9
            clear r9
            go_wp2_with (go_at_call 14; (with_reducible refine (R9.out).mono ?_); rintro e w11 ⟨rfl, rfl⟩)
            go_ret
            exact ⟨rfl, L9.out.bel⟩
      · obtain rfl : k = n := by omega
        clear h160
        go_upto_region 13 with (go_at_call 14; (with_reducible refine (HR.out).mono ?_); rintro e w6 ⟨rfl, rfl⟩)
        rename_i wz
        go_wp2_with (go_at_call 17; fail)
        go_loopg [12, 13] P (fun kx s12 s13 wq => ∃ (i : Nat) (VA : Option Addr) (vc : Nat), s13 = .int .i64 (i : Int) ∧ i + kx = P ∧ s12 = .slice VA i vc ∧ wq.ownsRow w.heap.size 3 1 (.slice VA i vc) i (iV (upto i)) ∧ Ld w wq g a b d)
        case atStart => exact ⟨0, none, 0, rfl, by omega, rfl, World.ownsRow_nil _ _ _ _, MM.out⟩
        case round =>
          obtain ⟨i, VA, vc, rfl, hi, rfl, hO, hL⟩ := hrel
          have hp := PEN.out _ hL
          have HPE := Lib.hid hp; have LL := Lib.hid hL
          clear hp hL
          by_cases hlt : i < P
          · have hiP : (i : Int) < (P : Int) := by omega
            go_upto_region 17 with (go_at_call 17; (with_reducible refine (HPE.out).mono ?_); rintro e w7 ⟨rfl, rfl⟩)
            rename_i wy
            have own2 : (w7.alloc (.cells #[.int .i64 (i : Int)] 3)).ownsRow w.heap.size 3 1 (.slice VA i vc) i (iV (upto i)) := hO.alloc _
            have l2 := LL.out.step (below_alloc w7 (.cells #[.int .i64 (i : Int)] 3))
            have hnew := new_at w7 3 [.int .i64 (i : Int)]
            have hbase := l2.bel.size
            have OWN := Lib.hid own2; have L2 := Lib.hid l2; have HNEW := Lib.hid hnew
            clear own2 l2 hnew hO
            go_wp2_with (at_builtin; go_loud (refine wpList_append_own _ rfl _ _ 37 rfl w.heap.size 3 j0 (.int .i64 0) 1 8 Try.underlying37 INF.out.1 INF.out.2.1 INF.out.2.2.1 INF.out.2.2.2 rfl (by decide) _ _ _ rfl OWN.out ⟨w7.heap.size, 0, none⟩ 1 1 [.int .i64 (i : Int)] rfl rfl HNEW.out (by intro u hu; simp only [List.mem_cons, List.not_mem_nil, or_false] at hu; subst hu; rfl) (by unfold maxLen; omega) (by omega) hbase ?_); intro v' w10 own8 hg8 _; obtain ⟨g', cap', rfl⟩ := ownsRow_succ own8; have N8 := Lib.hid (L2.out.ints OWN.out (Nat.le_refl _) hg8); have O8 := Lib.hid own8; clear own8 hg8)
            go_roundg (P - (i + 1))
            case measure => omega
            case rel => exact ⟨i + 1, some ⟨g', 0, none⟩, cap', by go_num, by omega, rfl, by rw [upto_succ]; simpa [iV] using O8.out, N8.out⟩
          · obtain rfl : i = P := by omega
            have hcr := LL.out.crash (by rw [← HP.out]; omega) VA vc (upto i) (own_nums hO) (by rw [upto_len]; omega) (-1)
            rw [upto_len, HCA.out] at hcr
            have HCR := Lib.hid hcr
            clear hcr hO hlt
            go_upto_region 19 with first | (go_at_call 17; (with_reducible refine (HPE.out).mono ?_); rintro e w7 ⟨rfl, rfl⟩) | (go_at_call 25; (with_reducible refine (HCR.out).mono ?_); rintro e w8 ⟨rfl, l8, _⟩; have L8 := Lib.hid l8; clear l8)
            have r8 := RD8.out _ L8.out
            have hcs := L8.out.crash P8.out none 0 [] (.inl rfl) (by decide) 0
            rw [HC8.out, List.length_nil] at hcs
            have R8 := Lib.hid r8; have CS := Lib.hid hcs
            clear r8 hcs
            go_upto_region 21 with first | (go_at_call 14; (with_reducible refine (R8.out).mono ?_); rintro e w9 ⟨rfl, rfl⟩) | (go_at_call 25; (with_reducible refine (CS.out).mono ?_); rintro e w10 ⟨rfl, l9, _⟩; have L9 := Lib.hid l9; clear l9)
            have r9 := RD8.out _ L9.out
            have R9 := Lib.hid r9
            clear r9
            go_wp2_with (go_at_call 14; (with_reducible refine (R9.out).mono ?_); rintro e w11 ⟨rfl, rfl⟩)
            go_ret
            exact ⟨rfl, L9.out.bel⟩
end Go.Proofs.Ytghcffpcblficaa
