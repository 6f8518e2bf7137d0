/- The reference: Crash. -/
import Derived.Test.YtghcffpcblficaaRy
namespace Go.Proofs.Ytghcffpcblficaa
open Go.RowKit Go.Lib

theorem cutW_big {t : Nat} {p : Nat × ByteArray} (h : p.2.size ≤ t) : cutW t p = p := by
  unfold cutW
  rw [Nat.min_eq_right h, ByteArray.extract_zero_size]
theorem tornL_at {t : Int} {L : List (Nat × ByteArray)} {k : Nat} {p : Nat × ByteArray} (hp : L[k]? = some p) : (tornL t L)[k]? = some (if k + 1 = L.length ∧ 0 ≤ t then cutW t.toNat p else p) := by
  have hk := (List.getElem?_eq_some_iff.1 hp).1
  unfold tornL
  by_cases ht : t < 0
  · rw [if_pos ht, if_neg (by omega), hp]
  · rw [if_neg ht, List.getElem?_modify, hp]
    by_cases hl : k + 1 = L.length
    · have e : L.length - 1 = k := by omega
      simp only [e, if_true]
      rw [if_pos ⟨hl, by omega⟩]; rfl
    · have e : ¬ L.length - 1 = k := by omega
      simp only [e, if_false]
      rw [if_neg (by omega)]; rfl
/-- Memory while the reference's Crash runs. -/
structure Rc (W X : World) (B : Nat) (h : Rh) (d : Dk) (lv : Value) (L : List (Nat × ByteArray)) (cur : List UInt8) : Prop where
  r : Row X h.g 43 #[h.sv, h.lv, .bool d.lost, .int .i64 d.left]
  s : X.ownsRow B 5 1 h.sv d.dur.length (byteCells cur)
  l : X.ownsRow B 77 2 h.lv d.pend.length (flW d.pend)
  o : X.ownsRow W.heap.size 77 2 lv L.length (flW L)
  k : Kept h.has W X
section
variable {W X Y : World} {B : Nat} {h : Rh} {d : Dk} {lv lv' : Value} {L : List (Nat × ByteArray)} {cur : List UInt8}
theorem Rc.step (x : Rc W X B h d lv L cur) (b : Below X.heap.size X Y) : Rc W Y B h d lv L cur := ⟨x.r.step b, own_over x.s b, own_over x.l b, own_over x.o b, x.k.trans (.of_below (S := fun _ => False) b) (fun _ h => h.elim)⟩
theorem Rc.far (m : RefM W B h d) (x : Rc W X B h d lv L cur) : ∀ j, lv.ownBlock = some j → ¬ h.has j := fun j hj hh => by
  have := (x.o.lt j hj).1
  have := m.inside hh
  omega
theorem Rc.add {p : Nat × ByteArray} (m : RefM W B h d) (x : Rc W X B h d lv L cur) (hg : X.grownBy Y lv.ownBlock) (ho : Y.ownsRow W.heap.size 77 2 lv' (L.length + 1) (flW L ++ [.int .i64 p.1, .string p.2])) : Rc W Y B h d lv' (L ++ [p]) cur := by
  have k : Kept (fun k => lv.ownBlock = some k) X Y := (Kept.refl _ X).grown hg (fun k hk => .inl hk)
  have far := x.far m
  refine ⟨x.r.kept k (fun e => far _ e (.inl rfl)), own_kept x.s k (fun j hj e => far j e (.inr (.inl hj))), own_kept x.l k (fun j hj e => far j e (.inr (.inr hj))), ?_, x.k.trans k (fun i hi => .inr (x.o.lt i hi).1)⟩
  rw [flW_snoc, List.length_append]; exact ho
theorem Rc.fill {gs c : Nat} {cur' : List UInt8} (x : Rc W X B h d lv L cur) (hs : h.sv = .slice (some ⟨gs, 0, none⟩) d.dur.length c) (k : Kept (· = gs) X Y) (ho : Y.ownsRow B 5 1 h.sv d.dur.length (byteCells cur')) : Rc W Y B h d lv L cur' := by
  have hb : h.sv.ownBlock = some gs := by rw [hs]; rfl
  refine ⟨x.r.kept k (fun e => own_ne x.r x.s (by decide) (by rw [hb, e])), ho, own_kept x.l k (fun j hj e => own_own x.s x.l (by decide) j (by rw [hb, e]) hj), own_kept x.o k (fun j hj e => own_own x.s x.o (by decide) j (by rw [hb, e]) hj), x.k.trans k (fun i hi => .inl (.inr (.inl (by rw [hb, hi]))))⟩
theorem Rc.form (x : Rc W X B h d lv L cur) : ∃ A c, lv = .slice A L.length c := by
  rcases x.o.2 with ⟨h1, h2⟩ | ⟨g, cap, _, h1, _⟩
  · exact ⟨none, 0, by rw [h1, h2]⟩
  · exact ⟨_, _, h1⟩
end
set_option maxRecDepth 100000 in
set_option maxHeartbeats 16000000 in
theorem rcrash_any {W : World} {B : Nat} {h : Rh} {d : Dk} (m : RefM W B h d) (hp : d.pend.length ≤ 1000) (A : Option Addr) (kc : Nat) (keep : List Int) (hk : Nums W W.heap.size A keep) (hkl : keep.length ≤ 9223372036854775807) (t : Int) (t1 : -9223372036854775808 ≤ t) (t2 : t ≤ 9223372036854775807) (hKB : keep = [] ∨ ∀ k, h.has k → ∀ b o, A = some ⟨b, o, none⟩ → b ≠ k) :
    Calls Try.prog 33 #[.pointer (some ⟨h.g, 0, none⟩), .slice A keep.length kc, .int .i64 t] W fun e w' => e = .returned (.tuple #[]) ∧ TurnedR W w' B h (crashD d keep t) := by
  obtain ⟨PA, pc, hlv⟩ := m.lvf
  obtain ⟨gs, sc, hsv, _⟩ := m.svf
  obtain ⟨K, hK⟩ : ∃ K, K = keep.length := ⟨_, rfl⟩
  obtain ⟨P, hP⟩ : ∃ P, P = d.pend.length := ⟨_, rfl⟩
  obtain ⟨N, hN⟩ : ∃ N, N = d.dur.length := ⟨_, rfl⟩
  obtain ⟨j0, kj, kz0, kz1, kz2⟩ := info_parts chg_info
  have nums : ∀ X : World, Kept h.has W X → Nums X X.heap.size A keep := fun X k => by
    rcases hk with h0 | ⟨b, o, hA, hb, hc⟩
    · exact .inl h0
    rcases hKB with h0 | hKB
    · exact .inl h0
    · refine .inr ⟨b, o, hA, Nat.lt_of_lt_of_le hb k.size, fun i r hr => ?_⟩
      have := World.cell?_of_block (w := W) (w' := X) (a := ⟨b, o + i, none⟩) (k.block b hb (fun hh => hKB b hh b o hA rfl))
      rw [this]; exact hc i r hr
  have hasC : ∀ (X : World), Kept h.has W X → ∀ x : Int, Calls Try.prog 43 #[.slice A K kc, .int .i64 x] X fun e w' => e = .returned (.bool (decide (x ∈ keep))) ∧ w' = X := fun X k x => by
    have := rhas_any A kc keep x hkl X (nums X k)
    rw [← hK] at this
    exact this
  have HAS := Lib.hid hasC; have MM := Lib.hid m; have INF := Lib.hid (And.intro kj (And.intro kz0 (And.intro kz1 kz2)))
  have HLV := Lib.hid hlv; have HSV := Lib.hid hsv; have HP := Lib.hid hP; have HN := Lib.hid hN
  have st : Rc W W B h d (.slice none 0 0) [] d.dur := ⟨m.r, m.s, m.l, World.ownsRow_nil _ _ _ _, .refl _ _⟩
  have ST := Lib.hid st
  have hn2 := m.n2
  rw [← hP] at hp
  rw [← hN] at hn2
  rw [← hK]
  clear nums hasC kj kz0 kz1 kz2 hlv hsv hP hN hK hk hkl st m hKB
  go_enter Try.func33, Try.ntmps33
  go_wp2
  go_loopg [6, 7] P (fun kx s6 s7 wr => ∃ (k : Nat) (LA : Option Addr) (lc : Nat), s7 = .int .i64 (k : Int) ∧ k + kx = P ∧ s6 = .slice LA (surv (inK keep) (d.pend.take k)).length lc ∧ Rc W wr B h d (.slice LA (surv (inK keep) (d.pend.take k)).length lc) (surv (inK keep) (d.pend.take k)) d.dur)
  case atStart => exact ⟨0, none, 0, rfl, by omega, rfl, ST.out⟩
  case round =>
    clear ST
    obtain ⟨k, LA, lc, rfl, hk, rfl, hM⟩ := hrel
    have c1 : wr.cell? ⟨h.g, 1, none⟩ = some (.slice PA P pc) := by rw [HP.out, ← HLV.out]; exact hM.r.at rfl
    by_cases hlt : k < P
    · obtain ⟨p, hpk⟩ : ∃ p, d.pend[k]? = some p := at_lt (by rw [← HP.out]; exact hlt)
      have hO := hM.l
      rw [HLV.out] at hO
      obtain ⟨lg, cap, h5, _, _⟩ := hO.form (by rw [← HP.out]; omega)
      rw [← HP.out] at h5
      cases h5
      have e0 := (hO.cellAt (k * 2) (by rw [← HP.out]; omega)).trans (flW_at hpk).1
      have e1 := (hO.cellAt (k * 2 + 1) (by rw [← HP.out]; omega)).trans (flW_at hpk).2
      have htk : surv (inK keep) (d.pend.take (k + 1)) = surv (inK keep) (d.pend.take k) ++ if inK keep k then [p] else [] := by
        have hli : (d.pend.take k).length = k := by rw [List.length_take, ← HP.out]; omega
        rw [List.take_add_one, hpk]
        show surv (inK keep) (d.pend.take k ++ [p]) = _
        rw [surv_snoc, hli]
      have hsl : (surv (inK keep) (d.pend.take k)).length ≤ k := Nat.le_trans (surv_le _ _) (by rw [List.length_take]; omega)
      have hh := HAS.out wr hM.k k
      have kLi : (k : Int) < (P : Int) := by omega
      obtain ⟨off, s⟩ := p
      dsimp only at e0 e1
      obtain ⟨n, hn⟩ : ∃ n, n = (surv (inK keep) (d.pend.take k)).length := ⟨_, rfl⟩
      rw [← hn] at hsl hM ⊢
      have HH := Lib.hid hh; have MR := Lib.hid hM; have HTK := Lib.hid htk; have NN := Lib.hid hn
      clear hh hM htk hn hO hpk
      by_cases hb : (k : Int) ∈ keep
      · have hik : inK keep k = true := decide_eq_true hb
        rw [decide_eq_true hb] at HH
        rw [hik, if_pos rfl] at HTK
        have m2 := MR.out.step (below_alloc wr (.cells #[.int .i64 off, .string s] 77))
        have hnew := new_at wr 77 [.int .i64 off, .string s]
        have own2 := m2.o
        rw [← NN.out] at own2
        have hbase := m2.k.size
        have OWN := Lib.hid own2; have M2 := Lib.hid m2; have HNEW := Lib.hid hnew
        clear m2 hnew own2 hb hik
        go_wp2_with first | (go_at_call 43; (with_reducible refine (HH.out).mono ?_); rintro e w1 ⟨rfl, hw⟩; subst w1) | (at_builtin; go_loud (refine wpList_append_own _ rfl _ _ 41 rfl W.heap.size 77 j0 (.agg #[.int .i64 0, .string ⟨#[]⟩]) 2 24 Try.underlying41 INF.out.1 INF.out.2.1 INF.out.2.2.1 INF.out.2.2.2 rfl (by decide) _ _ _ rfl OWN.out ⟨wr.heap.size, 0, none⟩ 1 1 [.int .i64 off, .string s] rfl rfl HNEW.out (by intro u hu; simp only [List.mem_cons, List.not_mem_nil, or_false] at hu; rcases hu with rfl | rfl <;> rfl) (by unfold maxLen; omega) (by omega) hbase ?_); intro v' w10 own8 hg8 _; obtain ⟨g', cap', rfl⟩ := ownsRow_succ own8; rw [NN.out] at own8; have N8 := Lib.hid (Rc.add (p := (off, s)) MM.out M2.out hg8 own8); clear own8 hg8)
        go_roundg (P - (k + 1))
        case measure => omega
        case rel => exact ⟨k + 1, some ⟨g', 0, none⟩, cap', by go_num, by omega, by rw [HTK.out, List.length_append, NN.out]; rfl, by rw [HTK.out, List.length_append]; exact N8.out⟩
      · have hik : inK keep k = false := decide_eq_false hb
        rw [decide_eq_false hb] at HH
        rw [hik, if_neg Bool.false_ne_true, List.append_nil] at HTK
        clear hb hik
        go_wp2_with (go_at_call 43; (with_reducible refine (HH.out).mono ?_); rintro e w1 ⟨rfl, hw⟩; subst w1)
        go_roundg (P - (k + 1))
        case measure => omega
        case rel => exact ⟨k + 1, LA, lc, by go_num, by omega, by rw [HTK.out, NN.out], by rw [HTK.out, ← NN.out]; exact MR.out⟩
    · obtain rfl : P = k := by omega
      have hall : d.pend.take P = d.pend := List.take_of_length_le (by rw [← HP.out]; exact Nat.le_refl _)
      rw [hall] at hM ⊢
      obtain ⟨L, hL⟩ : ∃ L, L = surv (inK keep) d.pend := ⟨_, rfl⟩
      rw [← hL] at hM ⊢
      obtain ⟨n, hn⟩ : ∃ n, n = L.length := ⟨_, rfl⟩
      rw [← hn] at hM ⊢
      have hn1000 : n ≤ 1000 := by rw [hn, hL]; exact Nat.le_trans (surv_le _ _) (by rw [← HP.out]; exact hp)
      have hfit := crash_fit MM.out.ok keep t
      rw [← hL] at hfit
      have hcl : crashL d keep t = putAll d.dur (tornL t L) := by rw [hL]; rfl
      have MR := Lib.hid hM; have NN := Lib.hid hn; have FIT := Lib.hid hfit; have CL := Lib.hid hcl
      clear hM hn hfit hcl hL hall hlt hk HAS
      go_wp2
      go_loopg [8, 9] n (fun kx s8 s9 wr => ∃ k : Nat, s8 = .int .i64 (k : Int) ∧ k + kx = n ∧ Rc W wr B h d (.slice LA n lc) L (putAll d.dur ((tornL t L).take k)))
      case atStart => exact ⟨0, rfl, by omega, MR.out⟩
      case round =>
        clear MR
        obtain ⟨k, rfl, hk, hM⟩ := hrel
        by_cases hlt : k < n
        · obtain ⟨p, hpk⟩ : ∃ p, L[k]? = some p := at_lt (by rw [← NN.out]; exact hlt)
          have hO := hM.o
          rw [← NN.out] at hO
          obtain ⟨lg, cap, h5, _, _⟩ := hO.form (by omega)
          cases h5
          have e0 := (hO.cellAt (k * 2) (by omega)).trans (flW_at hpk).1
          have e1 := (hO.cellAt (k * 2 + 1) (by omega)).trans (flW_at hpk).2
          have hT := tornL_at (t := t) hpk
          rw [← NN.out] at hT
          have c0 : wr.cell? ⟨h.g, 0, none⟩ = some (.slice (some ⟨gs, 0, none⟩) N sc) := by
            have hh0 : wr.cell? ⟨h.g, 0, none⟩ = some h.sv := hM.r.at rfl
            rw [hh0, HSV.out, HN.out]
          have kLi : (k : Int) < (n : Int) := by omega
          obtain ⟨off, s⟩ := p
          dsimp only at e0 e1
          have MR := Lib.hid hM
          clear hM hO hpk
          by_cases c1 : k + 1 = n
          · have c1i : ((k : Int) == (n : Int) - 1) = true := by simp; omega
            by_cases c2 : 0 ≤ t
            · obtain ⟨tn, rfl⟩ : ∃ tn : Nat, t = tn := ⟨t.toNat, by omega⟩
              rw [if_pos ⟨c1, c2⟩, Int.toNat_natCast] at hT
              by_cases c3 : tn < s.size
              · have c3i : (tn : Int) < (s.size : Int) := by omega
                have he : cutW tn (off, s) = (off, s.extract 0 tn) := by unfold cutW; rw [Nat.min_eq_left (by omega : tn ≤ s.size)]
                rw [he] at hT
                clear he c1
                have hnx := putAll_take (l := d.dur) hT
                have hcl : (putAll d.dur (tornL tn L |>.take k)).length = N := by
                  rw [putAll_len (fun q hq => FIT.out q (List.mem_of_mem_take hq)), ← HN.out]
                have hqf : off + ((s.extract 0 tn)).size ≤ N := by rw [HN.out]; exact FIT.out _ (List.mem_of_getElem? hT)
                have hs2 := MR.out.s
                rw [HSV.out, ← HN.out] at hs2
                have ap := rapply_any gs N sc B _ hcl (by omega) off (s.extract 0 tn) hqf wr.drew hs2
                have AP := Lib.hid ap; have NX := Lib.hid hnx
                clear ap hnx hcl hqf hs2 hT
                go_upto_region 12 with (fail)
                go_still_tail 10, (by kernel_rfl)
                go_wp2_with (go_at_call 44; go_loud (refine (AP.out).mono ?_); rintro e w2 ⟨rfl, o2, k2⟩; have M2 := Lib.hid (MR.out.fill (cur' := putB (putAll d.dur ((tornL tn L).take k)) (off, (s.extract 0 tn))) HSV.out (Y := w2) ⟨k2.os, k2.tape, k2.output, k2.size, k2.block⟩ (by rw [HSV.out, ← HN.out]; exact o2)); clear o2 k2)
                go_roundg (n - (k + 1))
                case measure => omega
                case rel => exact ⟨k + 1, by go_num, by omega, by rw [NX.out]; exact M2.out⟩
              · have c3i : ¬ (tn : Int) < (s.size : Int) := by omega
                have c3d : decide ((tn : Int) < (s.size : Int)) = false := decide_eq_false c3i
                rw [cutW_big (by show s.size ≤ tn; omega)] at hT
                clear c1
                have hnx := putAll_take (l := d.dur) hT
                have hcl : (putAll d.dur (tornL tn L |>.take k)).length = N := by
                  rw [putAll_len (fun q hq => FIT.out q (List.mem_of_mem_take hq)), ← HN.out]
                have hqf : off + (s).size ≤ N := by rw [HN.out]; exact FIT.out _ (List.mem_of_getElem? hT)
                have hs2 := MR.out.s
                rw [HSV.out, ← HN.out] at hs2
                have ap := rapply_any gs N sc B _ hcl (by omega) off s hqf wr.drew hs2
                have AP := Lib.hid ap; have NX := Lib.hid hnx
                clear ap hnx hcl hqf hs2 hT
                go_upto_region 12 with (fail)
                go_still_tail 10, (by kernel_rfl)
                go_wp2_with (go_at_call 44; go_loud (refine (AP.out).mono ?_); rintro e w2 ⟨rfl, o2, k2⟩; have M2 := Lib.hid (MR.out.fill (cur' := putB (putAll d.dur ((tornL tn L).take k)) (off, s)) HSV.out (Y := w2) ⟨k2.os, k2.tape, k2.output, k2.size, k2.block⟩ (by rw [HSV.out, ← HN.out]; exact o2)); clear o2 k2)
                go_roundg (n - (k + 1))
                case measure => omega
                case rel => exact ⟨k + 1, by go_num, by omega, by rw [NX.out]; exact M2.out⟩
            · have c2d : decide (0 ≤ t) = false := decide_eq_false c2
              rw [if_neg (fun hh => c2 hh.2)] at hT
              clear c1
              have hnx := putAll_take (l := d.dur) hT
              have hcl : (putAll d.dur (tornL t L |>.take k)).length = N := by
                rw [putAll_len (fun q hq => FIT.out q (List.mem_of_mem_take hq)), ← HN.out]
              have hqf : off + (s).size ≤ N := by rw [HN.out]; exact FIT.out _ (List.mem_of_getElem? hT)
              have hs2 := MR.out.s
              rw [HSV.out, ← HN.out] at hs2
              have ap := rapply_any gs N sc B _ hcl (by omega) off s hqf wr.drew hs2
              have AP := Lib.hid ap; have NX := Lib.hid hnx
              clear ap hnx hcl hqf hs2 hT
              go_upto_region 12 with (fail)
              go_still_tail 10, (by kernel_rfl)
              go_wp2_with (go_at_call 44; go_loud (refine (AP.out).mono ?_); rintro e w2 ⟨rfl, o2, k2⟩; have M2 := Lib.hid (MR.out.fill (cur' := putB (putAll d.dur ((tornL t L).take k)) (off, s)) HSV.out (Y := w2) ⟨k2.os, k2.tape, k2.output, k2.size, k2.block⟩ (by rw [HSV.out, ← HN.out]; exact o2)); clear o2 k2)
              go_roundg (n - (k + 1))
              case measure => omega
              case rel => exact ⟨k + 1, by go_num, by omega, by rw [NX.out]; exact M2.out⟩
          · have c1i : ((k : Int) == (n : Int) - 1) = false := by simp; omega
            rw [if_neg (fun hh => c1 hh.1)] at hT
            clear c1
            have hnx := putAll_take (l := d.dur) hT
            have hcl : (putAll d.dur (tornL t L |>.take k)).length = N := by
              rw [putAll_len (fun q hq => FIT.out q (List.mem_of_mem_take hq)), ← HN.out]
            have hqf : off + (s).size ≤ N := by rw [HN.out]; exact FIT.out _ (List.mem_of_getElem? hT)
            have hs2 := MR.out.s
            rw [HSV.out, ← HN.out] at hs2
            have ap := rapply_any gs N sc B _ hcl (by omega) off s hqf wr.drew hs2
            have AP := Lib.hid ap; have NX := Lib.hid hnx
            clear ap hnx hcl hqf hs2 hT
            go_upto_region 12 with (fail)
            go_still_tail 10, (by kernel_rfl)
            go_wp2_with (go_at_call 44; go_loud (refine (AP.out).mono ?_); rintro e w2 ⟨rfl, o2, k2⟩; have M2 := Lib.hid (MR.out.fill (cur' := putB (putAll d.dur ((tornL t L).take k)) (off, s)) HSV.out (Y := w2) ⟨k2.os, k2.tape, k2.output, k2.size, k2.block⟩ (by rw [HSV.out, ← HN.out]; exact o2)); clear o2 k2)
            go_roundg (n - (k + 1))
            case measure => omega
            case rel => exact ⟨k + 1, by go_num, by omega, by rw [NX.out]; exact M2.out⟩
        · obtain rfl : n = k := by omega
          have hall : (tornL t L).take n = tornL t L := List.take_of_length_le (by rw [tornL_len, ← NN.out]; exact Nat.le_refl _)
          rw [hall, ← CL.out] at hM
          have hcl := crashL_len MM.out.ok keep t
          obtain ⟨C, hC⟩ : ∃ C, C = crashL d keep t := ⟨_, rfl⟩
          rw [← hC] at hM hcl
          have q1 := hM.r.at (i := 1) rfl
          have q2 := hM.r.at (i := 2) rfl
          have q3 := hM.r.at (i := 3) rfl
          have fin : TurnedR W (((wr.setCell ⟨h.g, 1, none⟩ (.slice none 0 0)).setCell ⟨h.g, 2, none⟩ (.bool false)).setCell ⟨h.g, 3, none⟩ (.int .i64 0)) B h (crashD d keep t) := by
            have k3 : Kept (· = h.g) wr (((wr.setCell ⟨h.g, 1, none⟩ (.slice none 0 0)).setCell ⟨h.g, 2, none⟩ (.bool false)).setCell ⟨h.g, 3, none⟩ (.int .i64 0)) := (((Kept.refl (fun k => k = h.g) wr).setCell (p := ⟨h.g, 1, none⟩) (.inl rfl) _).setCell (p := ⟨h.g, 2, none⟩) (.inl rfl) _).setCell (p := ⟨h.g, 3, none⟩) (.inl rfl) _
            refine ⟨h.sv, .slice none 0 0, ⟨((hM.r.stored 1 _).stored 2 _).stored 3 _, ?_, World.ownsRow_nil _ _ _ _, MM.out.Bg, crashD_ok MM.out.ok keep t, ?_, ?_⟩, hM.k.trans k3 (fun i hi => .inl (.inl hi)), fun k hk => ?_⟩
            · show World.ownsRow _ B _ 1 h.sv (crashL d keep t).length (byteCells (crashL d keep t))
              rw [← hC, hcl]
              exact own_kept hM.s k3 (fun j hj e => own_ne hM.r hM.s (by decide) (by rw [hj, e]))
            · show 1 ≤ (crashL d keep t).length
              rw [← hC, hcl]; exact MM.out.n1
            · show (crashL d keep t).length ≤ 400
              rw [← hC, hcl]; exact MM.out.n2
            · rcases hk with hk | hk | hk
              · exact .inl (.inl hk)
              · exact .inl (.inr (.inl hk))
              · cases hk
          have FIN := Lib.hid fin
          have f1 := hM.r.free 1
          have f2 := hM.r.free 2
          have f3 := hM.r.free 3
          clear hM fin hC hall hcl hlt hk
          go_wp2
          go_end0
          exact ⟨rfl, FIN.out⟩
end Go.Proofs.Ytghcffpcblficaa
