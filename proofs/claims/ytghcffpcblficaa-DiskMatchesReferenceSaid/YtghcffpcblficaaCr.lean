/- Crash. -/
import Derived.Test.YtghcffpcblficaaWr
namespace Go.Proofs.Ytghcffpcblficaa
open Go.RowKit Go.Lib

theorem crash_nil (A : Option Addr) (n c : Nat) (t : Int) (w : World) : Calls Try.prog 25 #[.pointer none, .slice A n c, .int .i64 t] w fun e w' => e = .returned (.int .i64 1) ∧ w' = w := by
  go_enter Try.func25, Try.ntmps25
  go_wp2
  go_ret
  exact ⟨rfl, rfl⟩
theorem flW_set {ps : List (Nat × ByteArray)} {i : Nat} (q : Nat × ByteArray) : ((flW ps).set (i * 2) (.int .i64 q.1)).set (i * 2 + 1) (.string q.2) = flW (ps.set i q) := by
  induction ps generalizing i with
  | nil => rfl
  | cons p ps ih =>
    cases i with
    | zero => simp [flW]
    | succ i =>
      rw [show (i + 1) * 2 = i * 2 + 1 + 1 by omega, show i * 2 + 1 + 1 + 1 = (i * 2 + 1) + 1 + 1 by omega]
      have h1 : flW (p :: ps) = .int .i64 p.1 :: .string p.2 :: flW ps := rfl
      have h2 : flW ((p :: ps).set (i + 1) q) = .int .i64 p.1 :: .string p.2 :: flW (ps.set i q) := rfl
      rw [h1, h2, ← ih]
      rfl
/-- Memory while Crash runs. -/
structure Crs (W X : World) (B : Nat) (h : Dh) (d : Dk) (lv : Value) (L : List (Nat × ByteArray)) (cur : List UInt8) : Prop where
  r : Row X h.g 66 (boxC h d.dur.length d.lost d.left)
  a : Row X h.a 5 (byteCells cur).toArray
  b : Row X h.b 5 (byteCells d.vis).toArray
  p : X.ownsRow B 71 2 h.pv d.pend.length (flW d.pend)
  o : X.ownsRow W.heap.size 71 2 lv L.length (flW L)
  k : Kept h.has W X
section
variable {W X Y : World} {B : Nat} {h : Dh} {d : Dk} {lv : Value} {L : List (Nat × ByteArray)} {cur : List UInt8}
theorem Crs.start (m : DiskM W B h d) (b : Below W.heap.size W X) (ho : X.ownsRow W.heap.size 71 2 lv L.length (flW L)) : Crs W X B h d lv L d.dur :=
  have m1 := m.step b
  ⟨m1.r, m1.a, m1.b, m1.p, ho, .of_below b⟩
theorem Crs.kept {S : Nat → Prop} (x : Crs W X B h d lv L cur) (k : Kept S X Y) (hg : ¬ S h.g) (ha : ¬ S h.a) (hb : ¬ S h.b) (hp : ∀ j, h.pv.ownBlock = some j → ¬ S j) (ho : ∀ j, lv.ownBlock = some j → ¬ S j) (hS : ∀ j, S j → h.has j ∨ W.heap.size ≤ j) : Crs W Y B h d lv L cur :=
  ⟨x.r.kept k hg, x.a.kept k ha, x.b.kept k hb, own_kept x.p k hp, own_kept x.o k ho, x.k.trans k hS⟩
theorem Crs.step (x : Crs W X B h d lv L cur) (b : Below X.heap.size X Y) : Crs W Y B h d lv L cur := x.kept (S := fun _ => False) (.of_below b) (fun h => h) (fun h => h) (fun h => h) (fun _ _ h => h) (fun _ _ h => h) (fun _ h => h.elim)
theorem Crs.put {lg c i : Nat} (m : DiskM W B h d) (x : Crs W X B h d (.slice (some ⟨lg, 0, none⟩) L.length c) L cur) (q : Nat × ByteArray) :
    Crs W ((X.setCell ⟨lg, i * 2, none⟩ (.int .i64 q.1)).setCell ⟨lg, i * 2 + 1, none⟩ (.string q.2)) B h d (.slice (some ⟨lg, 0, none⟩) L.length c) (L.set i q) cur := by
  have hlg := (x.o.lt lg rfl).1
  have k : Kept (fun k => k = lg) X ((X.setCell ⟨lg, i * 2, none⟩ (.int .i64 q.1)).setCell ⟨lg, i * 2 + 1, none⟩ (.string q.2)) := ((Kept.refl (fun k => k = lg) X).setCell (p := ⟨lg, i * 2, none⟩) (.inl rfl) _).setCell (p := ⟨lg, i * 2 + 1, none⟩) (.inl rfl) _
  have far : ∀ j, h.has j → j ≠ lg := fun j hj e => by have := m.inside hj; omega
  refine ⟨x.r.kept k (far _ (.inl rfl)), x.a.kept k (far _ (.inr (.inl rfl))), x.b.kept k (far _ (.inr (.inr (.inl rfl)))), own_kept x.p k (fun j hj => far j (.inr (.inr (.inr hj)))), ?_, x.k.trans k (fun j hj => .inr (by rw [hj]; exact hlg))⟩
  have h1 := (x.o.stored (i * 2) (.int .i64 q.1)).1
  have h2 := (h1.stored (i * 2 + 1) (.string q.2)).1
  rw [flW_set] at h2
  rw [List.length_set]
  exact h2
theorem Crs.take {p : Nat × ByteArray} (m : DiskM W B h d) (x : Crs W X B h d lv L cur) (k : Kept (· = h.a) X Y) (r : Row Y h.a 5 (byteCells (putB cur p)).toArray) : Crs W Y B h d lv L (putB cur p) :=
  ⟨x.r.kept k m.ga, r, x.b.kept k (fun e => m.ab e.symm), own_kept x.p k (fun j hj e => m.pa (by rw [hj, e])), own_kept x.o k (fun j hj e => by
    have := (x.o.lt j hj).1
    have := m.a.inside
    omega), x.k.trans k (fun i hi => .inl (by rw [hi]; exact .inr (.inl rfl)))⟩
end
theorem tornL_set {t : Int} {L : List (Nat × ByteArray)} {p : Nat × ByteArray} (ht : 0 ≤ t) (hp : L[L.length - 1]? = some p) : tornL t L = L.set (L.length - 1) (cutW t.toNat p) := by
  unfold tornL
  rw [if_neg (by omega)]
  obtain ⟨hlt, he⟩ := List.getElem?_eq_some_iff.1 hp
  apply List.ext_getElem?
  intro i
  rw [List.getElem?_modify, List.getElem?_set]
  by_cases h : L.length - 1 = i
  · subst h
    simp only [if_pos hlt, if_true, hp]
    rfl
  · simp only [h, if_false]
    cases L[i]? <;> rfl
theorem putAll_take {l : List UInt8} {L : List (Nat × ByteArray)} {k : Nat} {p : Nat × ByteArray} (h : L[k]? = some p) : putAll l (L.take (k + 1)) = putB (putAll l (L.take k)) p := by
  rw [List.take_add_one, h]
  exact putAll_snoc _ _ _
/-- The disk behind copy and forget, and behind restart. -/
theorem restart_of {X : World} {g : Nat} {l0 l1 x y z : Value} (r : Row X g 66 #[l0, l1, x, y, z]) : Calls Try.prog 42 #[.pointer (some ⟨g, 0, none⟩)] X fun e w' => e = .returned (.tuple #[]) ∧ w' = pwr X g false 0 :=
  restart_any g _ _ X (r.at rfl) (r.at rfl) (r.free 0) (r.free 1)
theorem crash_end {W X w2 : World} {B : Nat} {h : Dh} {d : Dk} {lv : Value} {L : List (Nat × ByteArray)} {C : List UInt8} {keep : List Int} {t : Int} (m : DiskM W B h d) (x : Crs W X B h d lv L C) (hC : C.length = d.dur.length) (hD : crashL d keep t = C) (hr : Row w2 h.b 5 (byteCells C).toArray) (hk : Kept (· = h.b) X w2) :
    Calls Try.prog 38 #[.pointer (some ⟨h.g, 0, none⟩)] w2 fun e w' => e = .returned (.tuple #[]) ∧ (∃ pv', Row w' h.g 66 #[.bool d.lost, .int .i64 d.left, .slice (some ⟨h.a, 0, none⟩) d.dur.length d.dur.length, .slice (some ⟨h.b, 0, none⟩) d.dur.length d.dur.length, pv']) ∧ Turned W (pwr w' h.g false 0) B h (crashD d keep t) := by
  have r2 := x.r.kept hk m.gb
  refine (forget_any h.g _ B _ _ _ _ h.pv _ w2 r2 (own_kept x.p hk (fun _ hj e => m.pb (by rw [hj, e])))).mono fun e w3 ⟨he, pv', q1, q2, q3, q4⟩ => ⟨he, ⟨pv', q1⟩, ?_⟩
  have m3 : DiskM w3 B { h with pv := pv' } { dur := C, vis := C, pend := [], lost := d.lost, left := d.left } := by
    refine ⟨?_, (x.a.kept hk m.ab).kept q3 (fun e => ?_), hr.kept q3 (fun e => ?_), q2, m.ab, m.Bg, m.Ba, m.Bb, ⟨rfl, (fun p hp => by cases hp), by show C.length ≤ _; rw [hC]; exact m.ok.small, m.ok.left⟩⟩
    · show Row w3 h.g _ (boxC { h with pv := pv' } C.length d.lost d.left)
      rw [hC]; exact q1
    · rcases e with e | e
      · exact m.ga e.symm
      · exact m.pa e
    · rcases e with e | e
      · exact m.gb e.symm
      · exact m.pb e
  have m4 := m3.pwr false 0 (Nat.zero_le _)
  refine ⟨pv', ?_, ?_, fun k hk' => .inl (by rw [← q4]; exact hk')⟩
  · unfold crashD
    rw [hD]
    exact m4
  · refine ((x.k.trans hk (fun i hi => .inl (by rw [hi]; exact .inr (.inr (.inl rfl))))).trans q3 (fun i hi => .inl ?_)).trans (kept_pwr w3 h.g false 0) (fun i hi => .inl (.inl hi))
    rcases hi with hi | hi
    · exact .inl hi
    · exact .inr (.inr (.inr hi))
set_option maxRecDepth 100000 in
set_option maxHeartbeats 16000000 in
theorem crash_any {W : World} {B : Nat} {h : Dh} {d : Dk} (m : DiskM W B h d) (hp : d.pend.length ≤ 1000) (A : Option Addr) (kc : Nat) (keep : List Int) (hk : Nums W W.heap.size A keep) (hkl : keep.length ≤ 9223372036854775807) (t : Int) :
    Calls Try.prog 25 #[.pointer (some ⟨h.g, 0, none⟩), .slice A keep.length kc, .int .i64 t] W fun e w' => e = .returned (.int .i64 0) ∧ Turned W w' B h (crashD d keep t) := by
  have hsur := surviving_any h.g B _ _ _ _ h.pv d.pend hp W m.r m.p A kc keep hk hkl
  obtain ⟨L, hL⟩ : ∃ L, L = surv (inK keep) d.pend := ⟨_, rfl⟩
  rw [← hL] at hsur
  have hLl : L.length ≤ 1000 := by rw [hL]; exact Nat.le_trans (surv_le _ _) hp
  have hfit := crash_fit m.ok keep t
  have hLf : ∀ p ∈ L, p.1 + p.2.size ≤ d.dur.length := fun p hq => m.ok.fit p (surv_mem (by rw [← hL]; exact hq))
  have hcl : crashL d keep t = putAll d.dur (tornL t L) := by rw [hL]; rfl
  rw [← hL] at hfit
  have hsm := m.ok.small
  have hvl := m.ok.len
  obtain ⟨N, hN⟩ : ∃ N, N = d.dur.length := ⟨_, rfl⟩
  obtain ⟨K, hK⟩ : ∃ K, K = keep.length := ⟨_, rfl⟩
  rw [← hN] at hsm hvl hfit hLf
  rw [← hK] at hsur ⊢
  obtain ⟨n, hn⟩ : ∃ n, n = L.length := ⟨_, rfl⟩
  rw [← hn] at hLl
  have SUR := Lib.hid hsur; have MM := Lib.hid m; have HL := Lib.hid hL; have FIT := Lib.hid hfit; have LF := Lib.hid hLf; have CL := Lib.hid hcl; have HN := Lib.hid hN; have VL := Lib.hid hvl; have NN := Lib.hid hn
  have ok' := Lib.hid (crashD_ok m.ok keep t)
  clear hsur hL hfit hLf hcl hN hvl hn hk hkl hK m hp
  go_enter Try.func25, Try.ntmps25
  go_upto_region 5 with (go_at_call 40; (with_reducible refine (SUR.out).mono ?_); rintro e w1 ⟨lv, rfl, ho, b1⟩; have CRS := Lib.hid (Crs.start MM.out b1 ho); (obtain ⟨LA, lc, rfl⟩ : ∃ LA lc, lv = .slice LA n lc := (by
    rcases ho.2 with ⟨h1, h2⟩ | ⟨_, _, _, h1, _⟩
    · exact ⟨none, 0, by rw [h1, NN.out, h2]⟩
    · exact ⟨_, _, by rw [h1, NN.out]⟩)); clear ho b1)
  obtain ⟨z, hz⟩ : ∃ z : Int, z = (n : Int) - 1 := ⟨_, rfl⟩
  rw [← hz]
  obtain ⟨tb, htb⟩ : ∃ tb, tb = (decide (0 ≤ z) && decide (0 ≤ t)) := ⟨_, rfl⟩
  have HZ := Lib.hid hz; have HTB := Lib.hid htb
  clear hz htb
  go_cut [24] (fun s24 W => s24 = .bool tb ∧ W = w1)
  case first =>
    by_cases h1 : 0 ≤ z
    · by_cases h2 : 0 ≤ t
      · go_wp2
        go_meet
        case rel => exact ⟨by rw [HTB.out]; simp [h1, h2], rfl⟩
      · have h3 : decide (0 ≤ t) = false := decide_eq_false h2
        go_wp2
        go_meet
        case rel => exact ⟨by rw [HTB.out]; simp [h2], rfl⟩
    · have h3 : decide (0 ≤ z) = false := decide_eq_false h1
      go_wp2
      go_meet
      case rel => exact ⟨by rw [HTB.out, h3]; rfl, rfl⟩
  obtain ⟨rfl, rfl⟩ := hcut
  go_upto_if 24 with (fail)
  go_cut [] (fun X => Crs W X B h d (.slice LA n lc) (tornL t L) d.dur)
  case first =>
    cases hb : tb with
    | false =>
      have hno : tornL t L = L := by
        have := HTB.out
        rw [hb] at this
        by_cases h2 : t < 0
        · unfold tornL; rw [if_pos h2]
        · have h1 : ¬ 0 ≤ z := fun h1 => by simp [h1, Int.not_lt.1 h2] at this
          have h3 := HZ.out
          have h4 : L = [] := List.eq_nil_of_length_eq_zero (by rw [← NN.out]; omega)
          rw [h4, tornL_nil]
      have HNO := Lib.hid hno
      clear hno
      go_wp2
      go_meet
      case rel => rw [HNO.out]; exact CRS.out
    | true =>
      have htt := HTB.out
      rw [hb] at htt
      simp only [Bool.true_eq, Bool.and_eq_true, decide_eq_true_eq] at htt
      obtain ⟨hz0, ht0⟩ := htt
      obtain ⟨i, rfl⟩ : ∃ i : Nat, z = i := ⟨z.toNat, by omega⟩
      have hni : n = i + 1 := by have := HZ.out; omega
      obtain ⟨tn, rfl⟩ : ∃ tn : Nat, t = tn := ⟨t.toNat, by omega⟩
      obtain ⟨p, hpi⟩ : ∃ p, L[i]? = some p := at_lt (by rw [← NN.out]; omega)
      have hts : tornL tn L = L.set i (cutW tn p) := by
        have hil : i = L.length - 1 := by rw [← NN.out]; omega
        rw [tornL_set (Int.natCast_nonneg _) (by rw [← hil]; exact hpi), ← hil]
        rfl
      have hps := LF.out p (List.mem_of_getElem? hpi)
      have hO := CRS.out.o
      rw [← NN.out] at hO
      obtain ⟨lg, cap, h5, _, _⟩ := hO.form (by omega)
      cases h5
      have k := flW_at hpi
      have e0 := (hO.cellAt (i * 2) (by omega)).trans k.1
      have e1 := (hO.cellAt (i * 2 + 1) (by omega)).trans k.2
      have tor := torn_any p tn (by omega)
      have crs : Crs W wc B h d (.slice (some ⟨lg, 0, none⟩) L.length lc) L d.dur := by rw [← NN.out]; exact CRS.out
      have fin := fun (X : World) (b : Below wc.heap.size wc X) => Crs.put (i := i) MM.out (crs.step b) (cutW tn p)
      rw [← NN.out] at fin
      have cel := fun (X : World) (b : Below wc.heap.size wc X) => (own_over hO (B := W.heap.size) b)
      obtain ⟨off, s⟩ := p
      dsimp only at e0 e1 tor
      obtain ⟨off', s', hos⟩ : ∃ a b, cutW tn (off, s) = (a, b) := ⟨_, _, rfl⟩
      rw [hos] at tor fin hts
      dsimp only at tor fin
      have TOR := Lib.hid tor; have FIN := Lib.hid fin; have CEL := Lib.hid cel; have LI := Lib.hid hpi; have HTS := Lib.hid hts
      have hil : (i : Int) < (n : Int) := by omega
      clear hb hts hps hO k tor fin crs cel hpi hos HTB hni
      go_wp2_with (go_at_call 41; go_loud (refine (TOR.out _).mono ?_); rintro e w2 ⟨rfl, b2⟩; have O2 := CEL.out _ b2; have g0 := O2.cellAt (i * 2) (by omega); have g1 := O2.cellAt (i * 2 + 1) (by omega); rw [(flW_at LI.out).1] at g0; rw [(flW_at LI.out).2] at g1; have f0 := O2.frozenAt (i * 2); have f1 := O2.frozenAt (i * 2 + 1); have F2 := Lib.hid (FIN.out _ b2); clear O2 b2)
      go_meet
      case rel => rw [HTS.out]; exact F2.out
  have CR2 := Lib.hid hcut
  clear hcut CRS HTB HZ
  have hTl : (tornL t L).length = n := by rw [tornL_len, NN.out]
  obtain ⟨T, hT⟩ : ∃ T, T = tornL t L := ⟨_, rfl⟩
  rw [← hT] at CR2 FIT hTl
  have HT := Lib.hid hT; have TL := Lib.hid hTl.symm
  clear hT hTl
  have c2w := CR2.out.r.at (i := 2) (v := .slice (some ⟨h.a, 0, none⟩) N N) (by rw [HN.out]; rfl)
  go_wp2
  go_loopg [10, 36] n (fun kx s10 s36 wr => ∃ k : Nat, s36 = .int .i64 (k : Int) ∧ k + kx = n ∧ Crs W wr B h d (.slice LA n lc) T (putAll d.dur (T.take k)))
  case atStart => exact ⟨0, rfl, by omega, CR2.out⟩
  case round =>
    clear CR2 c2w
    obtain ⟨k, rfl, hk, hM⟩ := hrel
    by_cases hlt : k < n
    · obtain ⟨p, hpk⟩ : ∃ p, T[k]? = some p := at_lt (by rw [← TL.out]; exact hlt)
      have hO := hM.o
      rw [← TL.out] at hO
      obtain ⟨lg, cap, h5, _, _⟩ := hO.form (by omega)
      cases h5
      have e0 := (hO.cellAt (k * 2) (by omega)).trans (flW_at hpk).1
      have e1 := (hO.cellAt (k * 2 + 1) (by omega)).trans (flW_at hpk).2
      have hpf := FIT.out p (List.mem_of_getElem? hpk)
      have hcl : (putAll d.dur (T.take k)).length = N := by
        rw [putAll_len (fun q hq => by rw [← HN.out]; exact FIT.out q (List.mem_of_mem_take hq)), ← HN.out]
      have hnx := putAll_take (l := d.dur) hpk
      have kLi : (k : Int) < (n : Int) := by omega
      obtain ⟨off, s⟩ := p
      dsimp only at e0 e1 hpf
      have MR := Lib.hid hM; have NX := Lib.hid hnx; have HCL := Lib.hid hcl
      clear hM hnx hcl hO hpk
      go_upto_region 10 with (fail)
      obtain ⟨W1, hW1⟩ : ∃ W1, W1 = wr.alloc (.cells #[.int .i64 off, .string s] 71) := ⟨_, rfl⟩
      rw [← hW1]
      have r1 : Row W1 wr.heap.size 71 #[.int .i64 off, .string s] := by rw [hW1]; exact Row.made _ _ _
      have m1 : Crs W W1 B h d (.slice (some ⟨lg, 0, none⟩) n lc) T (putAll d.dur (T.take k)) := by rw [hW1]; exact MR.out.step (below_alloc _ _)
      obtain ⟨x0, x1, _, _⟩ := r1.two
      have c2 := m1.r.at (i := 2) (v := .slice (some ⟨h.a, 0, none⟩) N N) (by rw [HN.out]; rfl)
      have tk := take_any h.a N (putAll d.dur (T.take k)) HCL.out hsm off s hpf W1.drew m1.a.drawn
      have TK := Lib.hid tk; have M1 := Lib.hid m1
      clear hW1 r1 m1 tk e0 e1 MR
      go_still_tail 5, (by kernel_rfl)
      go_wp2_with (go_at_call 36; go_loud (refine (TK.out).mono ?_); rintro e w10 ⟨rfl, kt, rt⟩; have M10 := Lib.hid (Crs.take (p := (off, s)) MM.out M1.out ⟨kt.os, kt.tape, kt.output, kt.size, kt.block⟩ rt); clear kt rt)
      go_roundg (n - (k + 1))
      case measure => omega
      case rel => exact ⟨k + 1, by go_num, by omega, by rw [NX.out]; exact M10.out⟩
    · obtain rfl : k = n := by omega
      have hall : T.take k = T := List.take_of_length_le (by rw [← TL.out]; exact Nat.le_refl _)
      rw [hall] at hM
      have c2 := hM.r.at (i := 2) (v := .slice (some ⟨h.a, 0, none⟩) N N) (by rw [HN.out]; rfl)
      have c3 := hM.r.at (i := 3) (v := .slice (some ⟨h.b, 0, none⟩) N N) (by rw [HN.out]; rfl)
      have hcl : (putAll d.dur T).length = N := by rw [putAll_len (fun q hq => by rw [← HN.out]; exact FIT.out q hq), ← HN.out]
      obtain ⟨C, hC⟩ : ∃ C, C = putAll d.dur T := ⟨_, rfl⟩
      rw [← hC] at hM hcl
      have u61 : Try.prog.underlying 61 = some (.slice 5) := Try.underlying61
      have MR := Lib.hid hM; have HCL := Lib.hid hcl; have HC := Lib.hid hC
      clear hM hcl hC hall hlt hk
      go_upto_region 12 with (fail)
      have fgt := fun (w2 : World) (hr : Row w2 h.b 5 (byteCells C).toArray) (hk : Kept (· = h.b) wr w2) => crash_end (t := t) MM.out MR.out (by rw [HCL.out, HN.out]) (by rw [CL.out, ← HT.out, ← HC.out]) hr hk
      have FG := Lib.hid fgt
      clear fgt
      go_still_tail 8, (by kernel_rfl)
      go_wp2_with first | ((with_reducible show wpList _ _ _ (Oper.mk (some 55) _ _ _ _ _ :: _) _ _); go_loud (refine wpList_copy_all rfl _ _ 61 61 rfl 5 u61 u8_size h.b h.a N N N (by rfl) (by rfl) d.vis C 5 5 MR.out.b MR.out.a VL.out HCL.out ?_); intro w2 hr2 hk2; have G2 := Lib.hid (FG.out w2 hr2.out ⟨hk2.os, hk2.tape, hk2.output, hk2.size, hk2.block⟩)) | (go_at_call 38; go_loud (refine (G2.out).mono ?_); rintro e w3 ⟨rfl, ⟨pv3, m3⟩, t3⟩; have T3 := Lib.hid t3; have R3 := Lib.hid (restart_of m3); clear m3 t3) | (go_at_call 42; go_loud (refine (R3.out).mono ?_); rintro e w4 ⟨rfl, hw4⟩; have W4 := Lib.hid hw4; clear hw4)
      go_ret
      exact ⟨rfl, by rw [W4.out]; exact T3.out⟩
end Go.Proofs.Ytghcffpcblficaa
