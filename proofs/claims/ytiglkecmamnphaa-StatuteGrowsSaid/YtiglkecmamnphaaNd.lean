/- needed. -/
import Derived.Test.YtiglkecmamnphaaDl
namespace Go.Proofs.Ytiglkecmamnphaa
open Go.RowKit Go.Sort Go.Lib Go.Maps

theorem own_cap {w : World} {B n m cap k : Nat} {e : TypeId} {A : Option Addr} {xs : List Value} (h : w.ownsRow B e k (.slice A n cap) m xs) : n ≤ cap := by
  rcases h.2 with ⟨e', _⟩ | ⟨g, cap', cur, e', _, _, hc, _⟩
  · cases e'; exact Nat.le_refl _
  · cases e'; exact hc
set_option maxHeartbeats 1000000 in
theorem clone_any (base cap : Nat) (A : Option Addr) (l : List Fd) (w : World) (ho : w.ownsRow base 63 4 (.slice A l.length cap) l.length (flatF l)) (hl : 0 < l.length) (h20 : l.length ≤ 20) :
    Calls Try.prog 44 #[.slice A l.length cap] w fun e w' => ∃ g c, e = .returned (.slice (some ⟨g, 0, none⟩) l.length c) ∧ w'.ownsRow w.heap.size 63 4 (.slice (some ⟨g, 0, none⟩) l.length c) l.length (flatF l) ∧ Below w.heap.size w w' := by
  obtain ⟨i0, hi0, hz0, hz1, hz2⟩ := info_parts fd_info
  rcases ho.2 with ⟨e', h0⟩ | ⟨g, cap', cur, hv, hbase, hg, hnc, hcm, hcs, htk⟩
  · omega
  obtain ⟨rfl, rfl⟩ : A = some ⟨g, 0, none⟩ ∧ cap = cap' := by simpa using hv
  have h := AnyE.slices_Clone Try.laysClone i0 (.agg #[.int .i64 0, .bool false, .int .i64 0, .int .i64 0]) 4 32 hi0 hz0 hz1 hz2 rfl (by decide) (fun w => by kernel_rfl) g 0 l.length cap (flatF l) w (by rw [flatF_len]) (by unfold maxLen; omega) (by omega) (fun j u hu => by
    obtain ⟨h1, h2⟩ := List.getElem?_eq_some_iff.1 hu
    rw [flatF_len] at h1
    rw [Nat.zero_add, ho.cellAt j h1, hu]) (fun u hu => by
      obtain ⟨f, _, hf⟩ := List.mem_flatMap.1 hu
      exact fd_one f u hf)
  refine h.mono fun e w' ⟨v', he, hown, hne, hb⟩ => ?_
  rcases hown.2 with ⟨e', _⟩ | ⟨g', c', cur', e', r⟩
  · exact absurd e' hne
  · subst e'
    exact ⟨g', c', he, hown, hb⟩

set_option maxRecDepth 100000 in
set_option maxHeartbeats 8000000 in
theorem needed_any (b : Bk) (q : Qn) (hlow : LowB b) (hc20 : b.cls.length ≤ 20) (hf20 : b.fct.length ≤ 20) (n : Int) (l : List Fd) (A : Option Addr) (cap base : Nat) (cv rv fv av bv : Value) (w : World) (hw : VwV w w.heap.size cv rv fv av bv b q) (hbase : base ≤ w.heap.size) (ho : w.ownsRow base 63 4 (.slice A l.length cap) l.length (flatF l)) (hp : provesB b q l n = true) (hl : 0 < l.length) (h20 : l.length ≤ 20) :
    Calls Try.prog 31 #[.agg #[cv, rv, fv, av, bv], .slice A l.length cap, .int .i64 n] w fun e w' => ∃ (A' : Option Addr) (c' : Nat) (l' : List Fd), e = .returned (.slice A' l'.length c') ∧ Slim b q n l' ∧ w'.ownsRow base 63 4 (.slice A' l'.length c') l'.length (flatF l') ∧ Below w.heap.size w w' := by
  have hpr := fun (l : List Fd) (LA : Option Addr) (lc : Nat) (h9 : l.length ≤ Big) (hcap : l.length ≤ lc) (W : World) (h : Below w.heap.size w W) (hf : FdsC W LA l) => proves_any b q n l LA lc h9 hcap cv rv fv av bv W (hw.deep h) hc20 hf20 hf
  have hst : Need b q n (l.take (l.length - 1)) (l.drop (l.length - 1)) := by
    obtain ⟨x, hx⟩ : ∃ y, l[l.length - 1]? = some y := at_lt (by omega)
    obtain ⟨h1, h2⟩ := List.getElem?_eq_some_iff.1 hx
    have e : l.drop (l.length - 1) = [x] := by rw [List.drop_eq_getElem_cons h1, h2, List.drop_of_length_le (by omega)]
    rw [e]
    refine need_start ?_
    rw [← e, List.take_append_drop]
    exact hp
  obtain ⟨K, hK⟩ : ∃ K, K = l.length := ⟨_, rfl⟩
  have hK2 : l.length - 1 = K - 1 := by rw [hK]
  rw [hK2] at hst
  have ho' := ho
  rw [← hK] at hl h20 ⊢
  have HP := Lib.hid hpr; have HS := Lib.hid hst; have HO := Lib.hid ho'; have HK := Lib.hid hK
  clear hpr hst ho ho' hp hw hK hK2 hc20 hf20
  go_enter Try.func31, Try.ntmps31
  go_wp2
  go_loopg [1, 7, 8] (K - 1) (fun kx s1 s7 s8 wr => ∃ (A1 : Option Addr) (c1 : Nat) (lp : List Fd) (i : Int), s1 = .slice A1 lp.length c1 ∧ s7 = .int .i64 i ∧ i + 1 = (kx : Int) ∧ kx + 1 ≤ lp.length ∧ lp.length ≤ 20 ∧ Row wr w.heap.size 79 #[cv, rv, fv, av, bv] ∧ Below w.heap.size w wr ∧ wr.ownsRow base 63 4 (.slice A1 lp.length c1) lp.length (flatF lp) ∧ Hid (Need b q n (lp.take kx) (lp.drop kx)))
  case atStart => exact ⟨A, cap, l, (K : Int) - 2, by rw [HK.out], rfl, by omega, by rw [← HK.out]; omega, by rw [← HK.out]; exact h20, Row.made _ _ _, below_alloc _ _, own_over HO.out (below_alloc _ _), HS⟩
  case round =>
    clear HO HS
    obtain ⟨A1, c1, lp, i, rfl, rfl, hik, hkl, hlp, hr, hb, hro, I⟩ := hrel
    by_cases hg : gk = 0
    · subst hg
      have hi : i = -1 := by omega
      subst hi
      have HR := Lib.hid hro; have HB := Lib.hid hb
      have hI := I.out
      rw [List.take_zero, List.drop_zero] at hI
      have HI := Lib.hid (slim_of hlow hI)
      clear hI I hro hb hr
      go_wp2
      go_ret
      exact ⟨_, _, lp, rfl, HI.out, HR.out, HB.out⟩
    · obtain ⟨j, hj⟩ : ∃ j, gk = j + 1 := ⟨gk - 1, by omega⟩
      subst hj
      obtain rfl : i = (j : Int) := by omega
      clear hik hg
      obtain ⟨x, hx⟩ : ∃ y, lp[j]? = some y := at_lt (by omega)
      obtain ⟨hx1, hx2⟩ := List.getElem?_eq_some_iff.1 hx
      obtain ⟨lq, hlq⟩ : ∃ lq, lq = lp.take j ++ lp.drop (j + 1) := ⟨_, rfl⟩
      have hql : lq.length = lp.length - 1 := by rw [hlq, List.length_append, List.length_take, List.length_drop]; omega
      have htl : (lp.take j).length = j := by rw [List.length_take]; omega
      have hqt : lq.take j = lp.take j := by rw [hlq, List.take_append_of_le_length (by omega), List.take_of_length_le (by omega)]
      have hqd : lq.drop j = lp.drop (j + 1) := by
        have h := List.drop_left (l₁ := lp.take j) (l₂ := lp.drop (j + 1))
        rw [htl] at h
        rw [hlq]
        exact h
      have hpt : lp.take (j + 1) = lp.take j ++ [x] := by rw [List.take_add_one, hx]; rfl
      have hpd : lp.drop j = x :: lp.drop (j + 1) := by rw [List.drop_eq_getElem_cons hx1, hx2]
      have hI := I.out
      rw [hpt] at hI
      have hkeep : provesB b q lq n = false → Need b q n (lp.take j) (lp.drop j) := fun h => by
        rw [hpd]
        exact need_keep hI (by rw [hlq] at h; exact h)
      have hdrop : provesB b q lq n = true → Need b q n (lq.take j) (lq.drop j) := fun h => by
        rw [hqt, hqd]
        exact need_drop hlow hI (by rw [hlq] at h; exact h)
      have hpr := fun (LA : Option Addr) (lc : Nat) (hcap : lq.length ≤ lc) (W : World) (h : Below w.heap.size w W) (hf : FdsC W LA lq) => HP.out lq LA lc (by show _ ≤ 9223372036854775807; omega) hcap W h hf
      rw [hql] at hpr
      have hcl := clone_any base c1 A1 lp wr hro (by omega) hlp
      have hdl := fun (g c : Nat) (W : World) (h : W.ownsRow wr.heap.size 63 4 (.slice (some ⟨g, 0, none⟩) lp.length c) lp.length (flatF lp)) => delete_any wr.heap.size g c j lp W h (by omega) hlp
      rw [← hlq] at hdl
      obtain ⟨M, hM⟩ : ∃ M, M = lp.length := ⟨_, rfl⟩
      have hM1 : lp.length - 1 = M - 1 := by rw [hM]
      obtain ⟨v0, v1, v2, v3, v4⟩ := box5 hr
      generalize hpv : provesB b q lq n = pb at *
      simp only [← hM] at hcl hdl hpr hro hql hkl hlp ⊢
      have CL := Lib.hid hcl; have DL := Lib.hid hdl; have PR := Lib.hid hpr; have RO := Lib.hid hro; have RR := Lib.hid hr; have BB := Lib.hid hb; have HK := Lib.hid hkeep; have HD := Lib.hid hdrop; have HQL := Lib.hid hql; have HM := Lib.hid hM
      clear hcl hdl hpr hro hr hb hkeep hdrop hI I hpt hpd hqt hqd htl hx hx1 hx2 hlq hM1 hpv hql hM HP v0 v1 v2 v3 v4
      go_upto_region 5 with (first
        | (go_at_call 44; (with_reducible refine CL.out.mono ?_); rintro e w5 ⟨g, c, rfl, o5, b5⟩; have O5 := Lib.hid o5; have B5 := Lib.hid b5; clear o5 b5)
        | (go_at_call 43; (with_reducible refine (DL.out g c w5 O5.out).mono ?_); rintro e w6 ⟨rfl, o6, g6⟩; have O6 := Lib.hid o6; have G6 := Lib.hid g6; clear o6 g6)
        | fail)
      have hg0 : wr.heap.size ≤ g := (O5.out.lt g rfl).1
      have hbs := BB.out.size
      have hb6 : Below w.heap.size w w6 := (below_step BB.out B5.out).grown G6.out (below_step BB.out B5.out).size (fun k ek => by cases ek; omega)
      have hr6 := (RR.out.step B5.out).grown G6.out (fun e => by cases e; have := RR.out.inside; omega)
      have hro6 := own_kept2 (own_over RO.out B5.out) O5.out (fun k ek => (RO.out.lt k ek).2) G6.out
      have ho6 : w6.ownsRow wr.heap.size 63 4 (.slice (some ⟨g, 0, none⟩) lq.length c) lq.length (flatF lq) := by rw [HQL.out]; exact O6.out
      have hpw := PR.out (some ⟨g, 0, none⟩) c (by have h7 := own_cap O6.out; exact h7) w6 hb6 (own_fds rfl ho6)
      have PW := Lib.hid hpw; have B6 := Lib.hid hb6; have R6 := Lib.hid hr6; have RO6 := Lib.hid hro6; have OO6 := Lib.hid ho6
      obtain ⟨v0, v1, v2, v3, v4⟩ := box5 hr6
      clear hpw hb6 hr6 hro6 ho6 PR DL CL O5 B5 O6 G6 RO RR BB hg0
      cases pb
      · go_wp2_with (first | (go_at_call 33; (with_reducible refine PW.out.mono ?_); rintro e w7 ⟨rfl, b7⟩; have B7 := Lib.hid b7; clear b7) | fail)
        go_roundg j
        case measure => omega
        case rel => exact ⟨A1, c1, lp, (j : Int) - 1, by rw [← HM.out], by go_num, by omega, by rw [← HM.out]; omega, by rw [← HM.out]; exact hlp, R6.out.step B7.out, below_step B6.out B7.out, by rw [← HM.out]; exact own_over RO6.out B7.out, Lib.hid (HK.out (by trivial))⟩
      · go_wp2_with (first | (go_at_call 33; (with_reducible refine PW.out.mono ?_); rintro e w7 ⟨rfl, b7⟩; have B7 := Lib.hid b7; clear b7) | fail)
        go_roundg j
        case measure => omega
        case rel => exact ⟨some ⟨g, 0, none⟩, c, lq, (j : Int) - 1, by rw [HQL.out], by go_num, by omega, by rw [HQL.out]; omega, by rw [HQL.out]; omega, R6.out.step B7.out, below_step B6.out B7.out, own_less (own_over OO6.out B7.out) (by omega), Lib.hid (HD.out (by trivial))⟩
end Go.Proofs.Ytiglkecmamnphaa
