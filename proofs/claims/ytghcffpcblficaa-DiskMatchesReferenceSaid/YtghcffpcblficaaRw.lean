/- The reference: New, Read, Cut, Sync. -/
import Derived.Test.YtghcffpcblficaaRv
namespace Go.Proofs.Ytghcffpcblficaa
open Go.RowKit Go.Lib

set_option maxRecDepth 100000 in
set_option maxHeartbeats 4000000 in
theorem rnew_any (n : Nat) (h1 : 1 ≤ n) (h2 : n ≤ 400) (w : World) : Calls Try.prog 18 #[.int .i64 n] w fun e w' => ∃ h : Rh, e = .returned (.tuple #[.pointer (some ⟨h.g, 0, none⟩), .int .i64 0]) ∧ RefM w' w.heap.size h (newD n) ∧ Below w.heap.size w w' := by
  have hmk := fun W => make_bytes W n (by omega)
  obtain ⟨W0, hW0⟩ : ∃ W0, W0 = w.alloc (.cells (byteCells (List.replicate n 0)).toArray 5) := ⟨_, rfl⟩
  have o0 : W0.ownsRow w.heap.size 5 1 (.slice (some ⟨w.heap.size, 0, none⟩) n n) n (byteCells (List.replicate n 0)) := by
    rw [hW0]
    exact World.ownsRow_lit w (byteCells (List.replicate n 0)).toArray n (Nat.le_refl _) (by unfold maxLen; omega) (by simp [byteCells])
  have b0 : Below w.heap.size w W0 := by rw [hW0]; exact below_alloc _ _
  have O0 := Lib.hid o0; have B0 := Lib.hid b0
  clear o0 b0
  go_enter Try.func18, Try.ntmps18
  go_wp2_with ((with_reducible show wpList _ _ _ (Oper.mk (some 12) _ _ _ _ _ :: _) _ _); rw [← hW0]; clear hW0 hmk)
  go_ret2
  exact ⟨⟨W0.heap.size, .slice (some ⟨w.heap.size, 0, none⟩) n n, .slice none 0 0⟩, rfl, ⟨Row.made _ _ _, by rw [zeros_len]; exact O0.out.alloc _, World.ownsRow_nil _ _ _ _, B0.out.size, newD_ok (by omega), by rw [zeros_len]; exact h1, by rw [zeros_len]; exact h2⟩, keep_alloc B0.out _⟩
theorem conv_own {W : World} {B gv N c o k : Nat} {l : List UInt8} (ho : W.ownsRow B 5 1 (.slice (some ⟨gv, 0, none⟩) N c) N (byteCells l)) (hl : l.length = N) (hk : o + k ≤ N) (cap : Nat) : (convert 40 9 (.slice (some ⟨gv, o, none⟩) k cap)).run Try.prog W = .ok (.string (strB (List.take k (l.drop o)))) W := by
  have hl2 : ((l.drop o).take k).length = k := by rw [List.length_take, List.length_drop]; omega
  have := run_convert_bytes_arg (P := Try.prog) W 40 5 Try.underlying40 Try.underlying5 gv o k cap (((l.drop o).take k).map fun x => (x.toNat : Int)) (by rw [List.length_map, hl2]) (fun i hi => by
    have hi2 : i < ((l.drop o).take k).length := by omega
    rw [ho.cellAt (o + i) (by omega)]
    rw [List.getD_eq_getElem?_getD, List.getElem?_map, List.getElem?_eq_getElem hi2]
    have : o + i < l.length := by omega
    simp [byteCells, this]) 9 Try.underlying9
  rw [this]
  congr 1
  simp only [strB, strOfNums, Value.string.injEq, ByteArray.mk.injEq, List.map_map]
  congr 1
  rw [List.map_congr_left (g := id) (fun x _ => by simp)]
  simp
section
variable {W Y : World} {B : Nat} {h : Rh} {d : Dk}
/-- Stores into the box. -/
theorem RefM.put (m : RefM W B h d) (i : Nat) (u : Value) {sv lv : Value} {lost : Bool} {left : Nat} {dur : List UInt8} {vis : List UInt8} {pend : List (Nat × ByteArray)} (he : (#[h.sv, h.lv, .bool d.lost, .int .i64 d.left] : Array Value).setIfInBounds i u = #[sv, lv, .bool lost, .int .i64 left])
    (hs : W.ownsRow B 5 1 sv dur.length (byteCells dur)) (hl : W.ownsRow B 77 2 lv pend.length (flW pend)) (ok : (⟨dur, vis, pend, lost, left⟩ : Dk).Ok) (n1 : 1 ≤ dur.length) (n2 : dur.length ≤ 400) : RefM (W.setCell ⟨h.g, i, none⟩ u) B ⟨h.g, sv, lv⟩ ⟨dur, vis, pend, lost, left⟩ := by
  have k : Kept (· = h.g) W (W.setCell ⟨h.g, i, none⟩ u) := (Kept.refl (fun k => k = h.g) W).setCell (p := ⟨h.g, i, none⟩) (.inl rfl) _
  refine ⟨?_, own_kept hs k (fun j hj e => own_ne m.r hs (by decide) (by rw [hj, e])), own_kept hl k (fun j hj e => own_ne m.r hl (by decide) (by rw [hj, e])), m.Bg, ok, n1, n2⟩
  have := m.r.stored i u
  rw [he] at this
  exact this
end
set_option maxRecDepth 100000 in
set_option maxHeartbeats 8000000 in
theorem rread_any {W : World} {B : Nat} {h : Rh} {d : Dk} (m : RefM W B h d) (hp : d.pend.length ≤ 1000) (o k : Int) (o1 : -9223372036854775808 ≤ o) (o2 : o ≤ 9223372036854775807) :
    Calls Try.prog 20 #[.pointer (some ⟨h.g, 0, none⟩), .int .i64 o, .int .i64 k] W fun e w' => e = .returned (.tuple #[.string (readS d o k), .int .i64 (readE d o k)]) ∧ Below W.heap.size W w' := by
  have c0 := m.c0
  have c2 := m.c2
  obtain ⟨gs, sc, hsv, _⟩ := m.svf
  rw [hsv] at c0
  cases hl : d.lost with
  | true =>
    rw [hl] at c2
    have hE : readE d o k = 91 := by unfold readE; rw [hl]; rfl
    have hS : readS d o k = ⟨#[]⟩ := by unfold readS; rw [hE]; rfl
    rw [hE, hS]
    clear hE hS m hsv hp
    go_enter Try.func20, Try.ntmps20
    go_wp2
    go_ret2
    exact ⟨rfl, Below.refl _ _⟩
  | false =>
    rw [hl] at c2
    have hvis := rvisible_any m hp
    have hvl := m.ok.len
    have n2 := m.n2
    obtain ⟨N, hN⟩ : ∃ N, N = d.dur.length := ⟨_, rfl⟩
    rw [← hN] at c0 hvl hvis n2
    have hER : hasB N o k = false → readE d o k = 90 ∧ readS d o k = ⟨#[]⟩ := fun hb => by
      have hE : readE d o k = 90 := by unfold readE; rw [hl, ← hN, hb]; rfl
      exact ⟨hE, by unfold readS; rw [hE]; rfl⟩
    have hOK : hasB N o k = true → readE d o k = 0 ∧ readS d o k = strB ((d.vis.drop o.toNat).take k.toNat) := fun hb => by
      have hE : readE d o k = 0 := by unfold readE; rw [hl, ← hN, hb]; rfl
      exact ⟨hE, by unfold readS; rw [hE]; rfl⟩
    have HV := Lib.hid hvis
    clear hvis m hsv hp hN hl
    by_cases a1 : o < 0
    · obtain ⟨hE, hS⟩ := hER (by unfold hasB; rw [decide_eq_false (by omega : ¬ 0 ≤ o)]; rfl)
      rw [hE, hS]
      clear hE hS hER hOK
      go_enter Try.func20, Try.ntmps20
      go_wp2
      go_ret2
      exact ⟨rfl, Below.refl _ _⟩
    · have a1d : decide (o < 0) = false := decide_eq_false a1
      by_cases a2 : k < 0
      · obtain ⟨hE, hS⟩ := hER (by unfold hasB; rw [decide_eq_false (by omega : ¬ 0 ≤ k), Bool.and_false]; rfl)
        rw [hE, hS]
        clear hE hS hER hOK
        go_enter Try.func20, Try.ntmps20
        go_wp2
        go_ret2
        exact ⟨rfl, Below.refl _ _⟩
      · have a2d : decide (k < 0) = false := decide_eq_false a2
        by_cases a3 : (N : Int) < o
        · obtain ⟨hE, hS⟩ := hER (by unfold hasB; rw [decide_eq_false (by omega : ¬ k ≤ N - o), Bool.and_false])
          rw [hE, hS]
          clear hE hS hER hOK
          go_enter Try.func20, Try.ntmps20
          go_wp2
          go_ret2
          exact ⟨rfl, Below.refl _ _⟩
        · have a3d : decide ((N : Int) < o) = false := decide_eq_false a3
          by_cases a4 : (N : Int) - o < k
          · obtain ⟨hE, hS⟩ := hER (by unfold hasB; rw [decide_eq_false (by omega : ¬ k ≤ N - o), Bool.and_false])
            rw [hE, hS]
            clear hE hS hER hOK
            go_enter Try.func20, Try.ntmps20
            go_wp2
            go_ret2
            exact ⟨rfl, Below.refl _ _⟩
          · have a4d : decide ((N : Int) - o < k) = false := decide_eq_false a4
            obtain ⟨hE, hS⟩ := hOK (by rw [hasB_iff]; omega)
            rw [hE, hS]
            clear hE hS hER hOK
            obtain ⟨oi, rfl⟩ : ∃ x : Nat, o = x := ⟨o.toNat, by omega⟩
            obtain ⟨ki, rfl⟩ : ∃ x : Nat, k = x := ⟨k.toNat, by omega⟩
            simp only [Int.toNat_natCast]
            have hok : oi + ki ≤ N := by omega
            have u40 : Try.prog.underlying 40 = some (.slice 5) := Try.underlying40
            have cvo : ∀ (W' : World) (gv c : Nat), W'.ownsRow W.heap.size 5 1 (.slice (some ⟨gv, 0, none⟩) N c) N (byteCells d.vis) → ∀ cap, (convert 40 9 (.slice (some ⟨gv, oi, none⟩) ki cap)).run Try.prog W' = .ok (.string (strB (List.take ki (d.vis.drop oi)))) W' := fun W' gv c ho cap => conv_own ho hvl hok cap
            have cvn := fun (W' : World) (A : Addr) (c : Nat) (hA : A.spot = none) => conv_none W' (some A) c 40 u40 (fun a ha => ⟨a.block, a.off, by cases ha; cases A; cases hA; rfl⟩)
            obtain ⟨S, hS⟩ : ∃ S, S = strB (List.take ki (d.vis.drop oi)) := ⟨_, rfl⟩
            rw [← hS] at cvo ⊢
            have CVO := Lib.hid cvo; have CVN := Lib.hid cvn
            clear cvo cvn
            rcases Nat.eq_zero_or_pos ki with rfl | hk0
            · have hS0 : S = ⟨#[]⟩ := by rw [hS]; rfl
              rw [hS0]
              clear hS hS0
              go_enter Try.func20, Try.ntmps20
              go_upto_region 5 with (fail)
              go_wp2_with (go_at_call 34; (with_reducible refine (HV.out).mono ?_); rintro e w1 ⟨gv, vc, rfl, ov, bv⟩; have hcap : N ≤ vc := (by rcases ov.2 with ⟨h, _⟩ | ⟨g', cap', _, h, _, _, h2, _⟩; (cases h); (cases h; exact h2)); have q1 := CVN.out w1 ⟨gv, 0, none⟩ (vc - oi) rfl; have q2 := CVN.out w1 ⟨gv, oi, none⟩ (vc - oi) rfl; have q3 := CVN.out w1 ⟨gv, 0, none⟩ 0 rfl; have BV := Lib.hid bv; clear ov bv)
              all_goals (go_ret2; exact ⟨rfl, BV.out⟩)
            · have HS := Lib.hid hS
              clear hS
              go_enter Try.func20, Try.ntmps20
              go_upto_region 5 with (fail)
              go_wp2_with (go_at_call 34; (with_reducible refine (HV.out).mono ?_); rintro e w1 ⟨gv, vc, rfl, ov, bv⟩; have hcap : N ≤ vc := (by rcases ov.2 with ⟨h, _⟩ | ⟨g', cap', _, h, _, _, h2, _⟩; (cases h); (cases h; exact h2)); have hno : ¬ vc = oi := (by omega); have q2 := CVO.out w1 gv vc ov (vc - oi); have BV := Lib.hid bv; clear ov bv)
              go_ret2
              exact ⟨rfl, BV.out⟩
end Go.Proofs.Ytghcffpcblficaa
