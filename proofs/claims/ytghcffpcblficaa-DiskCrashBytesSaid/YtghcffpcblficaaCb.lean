/- DiskCrashBytes: its walk. -/
import Derived.Test.YtghcffpcblficaaAg
import Derived.Test.YtghcffpcblficaaSn
namespace Go.Proofs.Ytghcffpcblficaa
open Go.RowKit Go.Lib

/-- Which writes are kept; the last of them; their numbers, the latest first. -/
def kpB (kl : List Bool) (i : Nat) : Bool := kl[i]?.getD false
def lastI (f : Nat → Bool) : Nat → Int
  | 0 => -1
  | k + 1 => if f k then (k : Int) else lastI f k
def numsK (f : Nat → Bool) : Nat → List Int
  | 0 => []
  | k + 1 => if f k then (k : Int) :: numsK f k else numsK f k
theorem numsK_len (f : Nat → Bool) : ∀ k, (numsK f k).length ≤ k
  | 0 => Nat.le_refl _
  | k + 1 => by
    have := numsK_len f k
    unfold numsK
    split
    · simp; exact this
    · omega
theorem numsK_mem (f : Nat → Bool) : ∀ (k i : Nat), (i : Int) ∈ numsK f k ↔ i < k ∧ f i = true
  | 0, i => by simp [numsK]
  | k + 1, i => by
    have := numsK_mem f k i
    unfold numsK
    by_cases h : f k = true
    · rw [if_pos h, List.mem_cons, this]
      constructor
      · rintro (e | ⟨e, e2⟩)
        · obtain rfl : k = i := by omega
          exact ⟨by omega, h⟩
        · exact ⟨by omega, e2⟩
      · rintro ⟨e, e2⟩
        by_cases hik : i = k
        · exact .inl (by omega)
        · exact .inr ⟨by omega, e2⟩
    · rw [if_neg h, this]
      constructor
      · rintro ⟨e, e2⟩; exact ⟨by omega, e2⟩
      · rintro ⟨e, e2⟩
        refine ⟨?_, e2⟩
        by_cases hik : i = k
        · subst hik; exact absurd e2 h
        · omega
theorem lastI_lt (f : Nat → Bool) : ∀ k, -1 ≤ lastI f k ∧ lastI f k < k
  | 0 => by simp [lastI]
  | k + 1 => by
    have := lastI_lt f k
    unfold lastI
    split <;> omega
theorem lastI_is (f : Nat → Bool) : ∀ (k i : Nat), (i : Int) = lastI f k → f i = true
  | 0, i, h => by simp [lastI] at h
  | k + 1, i, h => by
    unfold lastI at h
    split at h
    · rename_i hk
      obtain rfl : i = k := by omega
      exact hk
    · exact lastI_is f k i h
theorem lastI_no (f : Nat → Bool) : ∀ (k i : Nat), i < k → lastI f k < i → f i = false
  | 0, i, h, _ => by omega
  | k + 1, i, h, h2 => by
    unfold lastI at h2
    by_cases hk : f k = true
    · rw [if_pos hk] at h2; omega
    · rw [if_neg hk] at h2
      by_cases hik : i = k
      · subst hik; simpa using hk
      · exact lastI_no f k i (by omega) h2
/-- What was put so far: T; the last survivor may be torn. -/
structure TInv (f : Nat → Bool) (last t : Int) (qs : List (Nat × ByteArray)) (k : Nat) (T : List (Nat × ByteArray)) : Prop where
  le : (k : Int) ≤ last → T = surv f (qs.take k)
  gt : last < k → T = tornL t (surv f (qs.take k))
theorem TInv.zero (f : Nat → Bool) (last t : Int) (qs : List (Nat × ByteArray)) : TInv f last t qs 0 [] := ⟨fun _ => rfl, fun _ => by show [] = tornL t []; rw [tornL_nil]⟩
theorem surv_take {f : Nat → Bool} {qs : List (Nat × ByteArray)} {k : Nat} {q : Nat × ByteArray} (hq : qs[k]? = some q) : surv f (qs.take (k + 1)) = surv f (qs.take k) ++ if f k then [q] else [] := by
  have hk := (List.getElem?_eq_some_iff.1 hq).1
  rw [List.take_add_one, hq]
  show surv f (qs.take k ++ [q]) = _
  rw [surv_snoc, List.length_take, Nat.min_eq_left (by omega)]
theorem TInv.next {f : Nat → Bool} {m : Nat} {t : Int} {qs T : List (Nat × ByteArray)} {k : Nat} {q : Nat × ByteArray} (h : TInv f (lastI f m) t qs k T) (hq : qs[k]? = some q) (hk : k < m) (hf : f k = true) :
    TInv f (lastI f m) t qs (k + 1) (T ++ [if (k : Int) = lastI f m ∧ 0 ≤ t then cutW t.toNat q else q]) := by
  have hs := surv_take (f := f) hq
  rw [hf, if_pos rfl] at hs
  have h0 : (k : Int) ≤ lastI f m := by
    rcases Int.lt_or_le (lastI f m) k with h1 | h1
    · rw [lastI_no f m k hk h1] at hf; cases hf
    · exact h1
  have hT := h.le h0
  subst hT
  refine ⟨fun h1 => ?_, fun h1 => ?_⟩
  · rw [if_neg (by omega), hs]
  · have e : (k : Int) = lastI f m := by omega
    rw [hs, tornL_snoc]
    congr 2
    by_cases ht : t < 0
    · rw [if_pos ht, if_neg (by omega)]
    · rw [if_neg ht, if_pos ⟨e, by omega⟩]
theorem TInv.skip {f : Nat → Bool} {m : Nat} {t : Int} {qs T : List (Nat × ByteArray)} {k : Nat} {q : Nat × ByteArray} (h : TInv f (lastI f m) t qs k T) (hq : qs[k]? = some q) (hf : f k = false) : TInv f (lastI f m) t qs (k + 1) T := by
  have hs := surv_take (f := f) hq
  rw [hf, if_neg Bool.false_ne_true, List.append_nil] at hs
  refine ⟨fun h1 => ?_, fun h1 => ?_⟩
  · rw [hs]; exact h.le (by omega)
  · rw [hs]
    refine h.gt ?_
    rcases Int.lt_or_le (lastI f m) k with h2 | h2
    · exact h2
    · have e : (k : Int) = lastI f m := by omega
      rw [lastI_is f m k e] at hf; cases hf
theorem crash_torn {f : Nat → Bool} {m : Nat} {t : Int} {d : Dk} {T : List (Nat × ByteArray)} (hp : d.pend.length = m) (h : TInv f (lastI f m) t d.pend m T) : crashD d (numsK f m) t = ⟨putAll d.dur T, putAll d.dur T, [], false, 0⟩ := by
  have hT := h.gt (lastI_lt f m).2
  rw [List.take_of_length_le (by rw [hp]; exact Nat.le_refl _)] at hT
  have hc : crashL d (numsK f m) t = putAll d.dur T := by
    unfold crashL
    rw [hT, surv_same (f' := f) (fun i hi => ?_)]
    unfold inK
    rw [Bool.eq_iff_iff, decide_eq_true_eq, numsK_mem, hp.symm]
    exact ⟨fun h => h.2, fun h => ⟨hi, h⟩⟩
  unfold crashD
  rw [hc]
theorem strB_size (l : List UInt8) : (strB l).size = l.length := by simp [strB, ByteArray.size]
theorem bts_strB (l : List UInt8) : bts (strB l) = l := by simp [bts, strB]
theorem put_full {l m : List UInt8} (h : m.length = l.length) : putB l (0, strB m) = m := by
  unfold putB splice
  rw [bts_strB, List.take_zero, List.nil_append, List.drop_of_length_le (by omega), List.append_nil]
/-- What the law's loops leave of the row of choices. -/
def BlsC (W : World) (A : Option Addr) (l : List Bool) : Prop := Cells W W.heap.size A 1 (l.map fun y => (#[.bool y] : Array Value))
theorem BlsC.at {w W : World} {A : Option Addr} {l : List Bool} (h : BlsC w A l) (hb : Below w.heap.size w W) {i : Nat} {x : Bool} (hx : l[i]? = some x) : ∃ b o : Nat, A = some ⟨b, o, none⟩ ∧ W.cell? ⟨b, o + i, none⟩ = some (.bool x) := by
  obtain ⟨b, o, hA, hB, c⟩ := (h.below hb).get (i := i) (C := #[.bool x]) (by rw [List.getElem?_map, hx]; rfl)
  have := c 0 _ rfl
  rw [show o + i * 1 + 0 = o + i by omega] at this
  exact ⟨b, o, hA, this⟩
set_option maxRecDepth 100000 in
set_option maxHeartbeats 16000000 in
theorem cb_walk (size torn : Int) (s1 : In64 size) (t1 : In64 torn) (l : List Wp) (A : Option Addr) (cap : Nat) (kl : List Bool) (KA : Option Addr) (kc : Nat) (w : World) (hl : WpsC w A l) (hg : ∀ y ∈ l, GoodW y) (h63 : l.length ≤ 9223372036854775807) (hkl : BlsC w KA kl) (k63 : kl.length ≤ 9223372036854775807) :
    Calls Try.prog 8 #[.int .i64 size, .slice A l.length cap, .slice KA kl.length kc, .int .i64 torn] w fun e w' => e = .returned (.bool true) ∧ Below w.heap.size w w' := by
  have SAN := Lib.hid sane_any
  obtain ⟨N, z, he, h1, hM, hz0, hpk⟩ : ∃ (N : Nat) (z : Int), (1 : Int) + z = N ∧ 1 ≤ N ∧ N ≤ 100 ∧ (0 ≤ z ∧ z < 100) ∧ ∀ W : World, Calls Try.prog 15 #[.int .i64 size, .int .i64 100] W fun e w' => e = .returned (.int .i64 z) ∧ w' = W := by
    have hl := pkn_lt (c := size) (n := 100) (by decide)
    exact ⟨pkn size 100 + 1, (pkn size 100 : Int), by omega, by omega, by omega, by omega, fun W => pickn_any size 100 s1.1 s1.2 (by decide) (by decide) W⟩
  have PK := Lib.hid hpk
  have NW := Lib.hid (fun W (h : Below w.heap.size w W) => new_ld h N h1 (by omega))
  clear hpk s1
  have hmk : ∀ W : World, (Instr.makeSlice 40 (.int .i64 (N : Int)) (.int .i64 (N : Int))).run Try.prog W = .ok (.slice (some ⟨W.heap.size, 0, none⟩) N N) (W.alloc (.cells (byteCells (List.replicate N 0)).toArray 5)) := fun W => make_bytes W N (by omega)
  obtain ⟨n, hn⟩ : ∃ n, n = l.length := ⟨_, rfl⟩
  rw [← hn] at h63 ⊢
  obtain ⟨kn, hkn⟩ : ∃ n, n = kl.length := ⟨_, rfl⟩
  rw [← hkn] at k63 ⊢
  have HL := Lib.hid hl; have HG := Lib.hid hg; have HN := Lib.hid hn; have HKL := Lib.hid hkl; have HKN := Lib.hid hkn
  clear hl hg hn hkl hkn
  go_enter Try.func8, Try.ntmps8
  go_upto_region 2 with (go_at_call 12; (with_reducible refine (SAN.out _).mono ?_); rintro e w1 ⟨rfl, bs⟩; have B1 := Lib.hid bs; clear bs)
  go_upto_region 6 with first | (go_at_call 15; (with_reducible refine (PK.out _).mono ?_); rintro e w2 ⟨rfl, rfl⟩) | (go_at_call 13; (refine (NW.out _ B1.out).mono ?_); rintro e w3 ⟨g, a, b, rfl, l, _, _, _, _, _, la, lb⟩; have L0 := Lib.hid l; clear l)
  go_upto_region 7 with (fail)
  obtain ⟨W4, hW4⟩ : ∃ W, W = w3.alloc (.cells (byteCells (List.replicate N 0)).toArray 5) := ⟨_, rfl⟩
  rw [← hW4]
  have lb0 : Lb w W4 g a b w3.heap.size N (newD N) (List.replicate N 0) := by
    rw [hW4]
    exact ⟨L0.out.step (below_alloc _ _), Row.made _ _ _, fun e => by omega, fun e => by omega, L0.out.bel.size, zeros_len N, by simp⟩
  obtain ⟨gb, hgb⟩ : ∃ gb, gb = w3.heap.size := ⟨_, rfl⟩
  rw [← hgb] at lb0 ⊢
  have LB := Lib.hid lb0
  clear lb0 hW4 hgb hmk la lb L0 NW SAN PK he hz0
  go_wp2
  go_loopg [13] N (fun kx s13 wr => ∃ (k : Nat) (buf : List UInt8), s13 = .int .i64 (k : Int) ∧ k + kx = N ∧ Lb w wr g a b gb N (newD N) buf)
  case atStart => exact ⟨0, List.replicate N 0, rfl, by omega, LB.out⟩
  case round =>
    clear LB
    obtain ⟨k, buf, rfl, hk, hM⟩ := hrel
    by_cases hlt : k < N
    · have kLi : (k : Int) < (N : Int) := by omega
      obtain ⟨r, hr⟩ : ∃ r : Nat, r = k % 10 := ⟨_, rfl⟩
      have hr10 : r < 10 := by omega
      have hmod : (k : Int).tmod 10 = (r : Int) := by rw [Int.tmod_eq_emod_of_nonneg (by omega)]; omega
      have hx : ((UInt8.ofNat (48 + r)).toNat : Int) = 48 + (r : Int) := by
        rw [UInt8.toNat_ofNat_of_lt' (by show 48 + r < 256; omega)]; omega
      have c0 := hM.r.at (i := k) (v := .int .u8 ((buf[k]'(by rw [hM.hl]; exact hlt)).toNat : Int)) (by
        rw [List.getElem?_toArray]
        have : k < buf.length := by rw [hM.hl]; exact hlt
        simp [byteCells, this])
      have f0 := hM.r.free k
      generalize ((buf[k]'(by rw [hM.hl]; exact hlt)).toNat : Int) = old at c0
      have kc : Kept (· = gb) wr (wr.setCell ⟨gb, k, none⟩ (.int .u8 (48 + (r : Int)))) := (Kept.refl (fun k => k = gb) wr).setCell (p := ⟨gb, k, none⟩) (.inl rfl) _
      have nx : Lb w (wr.setCell ⟨gb, k, none⟩ (.int .u8 (48 + (r : Int)))) g a b gb N (newD N) (buf.set k (UInt8.ofNat (48 + r))) := by
        refine hM.fill kc ?_ (by rw [List.length_set]; exact hM.hl)
        rw [← hx, ← bytes_set]
        exact hM.r.stored k _
      have NX := Lib.hid nx
      have hw : IntKind.u8.wrap (48 + (r : Int)) = 48 + (r : Int) := by rw [IntKind.wrap_u8]; omega
      clear hr hx hM nx kc
      go_wp2
      go_roundg (N - (k + 1))
      case measure => omega
      case rel => exact ⟨k + 1, _, by go_num, by omega, NX.out⟩
    · obtain rfl : N = k := by omega
      obtain ⟨b0, hb0⟩ : ∃ b0, b0 = buf := ⟨_, rfl⟩
      rw [← hb0] at hM
      have hbl : b0.length = N := by rw [hb0]; rw [← hb0]; exact hM.hl
      have cv : (convert 40 9 (.slice (some ⟨gb, 0, none⟩) N N)).run Try.prog wr = .ok (.string (strB b0)) wr := by
        have hc := conv_bytes (cap := N) hM.r (o := 0) (k := N) (by rw [hM.hl]; omega) 40 Try.underlying40
        rw [List.drop_zero, List.take_of_length_le (by rw [hM.hl]; exact Nat.le_refl _)] at hc
        exact hc
      obtain ⟨w01, w02⟩ := write_ok (d := newD N) (p := (0, strB b0)) rfl rfl (by rw [strB_size, hbl, zeros_len]; simp)
      rw [put_full (by rw [hbl]; simp [newD])] at w02
      have hw := hM.l.write (Nat.zero_le _) 0 (by decide) (by decide) (strB b0) (by rw [strB_size, hbl]; omega)
      rw [show writeE (newD N) 0 (strB b0) = 0 from w01, show writeD (newD N) 0 (strB b0) = { newD N with vis := b0, pend := (newD N).pend ++ [(0, strB b0)] } from w02] at hw
      obtain ⟨d1, hd1⟩ : ∃ d1 : Dk, d1 = { newD N with vis := b0, pend := (newD N).pend ++ [(0, strB b0)] } := ⟨_, rfl⟩
      rw [← hd1] at hw
      have hs1 : readyE d1 = 0 ∧ syncD d1 = ⟨b0, b0, [], false, 0⟩ := by rw [hd1]; exact ⟨rfl, rfl⟩
      have sy : ∀ W : World, Ld w W g a b d1 → Calls Try.prog 23 #[.pointer (some ⟨g, 0, none⟩)] W fun e w' => e = .returned (.int .i64 0) ∧ Ld w w' g a b ⟨b0, b0, [], false, 0⟩ ∧ Stay W w' a b := fun W hW => by
        have := hW.sync
        rw [hs1.1, hs1.2] at this
        exact this
      have HW := Lib.hid hw; have SY := Lib.hid sy; have M0 := Lib.hid hM; have HB := Lib.hid hbl
      obtain ⟨S0, hS0⟩ : ∃ S, S = strB b0 := ⟨_, rfl⟩
      rw [← hS0] at HW cv
      clear hw sy hM hs1 hd1 w01 w02 hbl hb0 hS0
      go_upto_region 13 with first | (go_at_call 21; (with_reducible refine (HW.out).mono ?_); rintro e w5 ⟨rfl, l5, st⟩; have S5 := Lib.hid (SY.out _ l5); have G5 := Lib.hid (st.buf M0.out.r M0.out.na M0.out.nb); clear l5 st) | (go_at_call 23; (with_reducible refine (S5.out).mono ?_); rintro e w6 ⟨rfl, l6, st⟩; have m6 : Lb w w6 g a b gb N ⟨b0, b0, [], false, 0⟩ b0 := ⟨l6, st.buf G5.out M0.out.na M0.out.nb, M0.out.na, M0.out.nb, M0.out.hB, HB.out, HB.out⟩; have M6 := Lib.hid m6; clear l6 st m6)
      clear cv hlt hk HW SY M0
      obtain ⟨f, hf⟩ : ∃ f : Nat → Bool, f = kpB kl := ⟨_, rfl⟩
      have fIn : ∀ (W : World), Below w.heap.size w W → ∀ i, i < kn → ∃ bb o, KA = some ⟨bb, o, none⟩ ∧ W.cell? ⟨bb, o + i, none⟩ = some (.bool (f i)) := fun W hb i hi => by
        obtain ⟨x, hx⟩ : ∃ x, kl[i]? = some x := at_lt (by rw [← HKN.out]; exact hi)
        obtain ⟨bb, o, h1, h2⟩ := HKL.out.at hb hx
        exact ⟨bb, o, h1, by rw [h2, hf]; unfold kpB; rw [hx]; rfl⟩
      have fOut : ∀ i, ¬ i < kn → f i = false := fun i hi => by rw [hf]; unfold kpB; rw [List.getElem?_eq_none (by rw [← HKN.out]; omega)]; rfl
      have FI := Lib.hid fIn; have FO := Lib.hid fOut
      clear hf fIn fOut HKL
      go_wp2
      go_loopg [14, 15] n (fun kx s14 s15 wr => ∃ (k : Nat), s15 = .int .i64 (k : Int) ∧ k + kx = n ∧ k ≤ 20 ∧ s14 = .int .i64 (lastI f k) ∧ Lb w wr g a b gb N ⟨b0, b0, [], false, 0⟩ b0)
      case atStart => exact ⟨0, rfl, by omega, by omega, rfl, M6.out⟩
      case round =>
        clear M6
        obtain ⟨k, rfl, hk, hk20, rfl, hM⟩ := hrel
        have hln : lastI f (k + 1) = if f k then (k : Int) else lastI f k := rfl
        obtain ⟨la, hla⟩ : ∃ la, la = lastI f k := ⟨_, rfl⟩
        rw [← hla] at hln ⊢
        have HLN := Lib.hid hln; have HLA := Lib.hid hla; have MM := Lib.hid hM
        clear hln hla hM
        by_cases hlt : k < n ∧ k < 20
        · obtain ⟨hlt, hlt2⟩ := hlt
          have kLi : (k : Int) < (n : Int) := by omega
          have kLj : (k : Int) < 20 := by omega
          by_cases hkk : k < kn
          · obtain ⟨bb, o, rfl, e0⟩ := FI.out _ MM.out.l.bel k hkk
            have kLk : (k : Int) < (kn : Int) := by omega
            cases hfk : f k with
            | true =>
              rw [hfk] at e0
              rw [hfk, if_pos rfl] at HLN
              clear hfk
              go_wp2
              go_roundg (n - (k + 1))
              case measure => omega
              case rel => exact ⟨k + 1, by go_num, by omega, by omega, by rw [HLN.out], MM.out⟩
            | false =>
              rw [hfk] at e0
              rw [hfk, if_neg Bool.false_ne_true] at HLN
              clear hfk
              go_wp2
              go_roundg (n - (k + 1))
              case measure => omega
              case rel => exact ⟨k + 1, by go_num, by omega, by omega, by rw [HLN.out], MM.out⟩
          · have hfk := FO.out k hkk
            have kLk : ¬ (k : Int) < (kn : Int) := by omega
            have kLd : decide ((k : Int) < (kn : Int)) = false := decide_eq_false kLk
            rw [hfk, if_neg Bool.false_ne_true] at HLN
            clear hfk hkk
            go_wp2
            go_roundg (n - (k + 1))
            case measure => omega
            case rel => exact ⟨k + 1, by go_num, by omega, by omega, by rw [HLN.out], MM.out⟩
        · have cond : (k < n → k = 20) := fun h => by omega
          have hkn : k ≤ n := by omega
          clear hlt HLN hk
          have hm20 : k ≤ 20 := hk20
          obtain ⟨m, hmk⟩ : ∃ m, m = k := ⟨_, rfl⟩
          obtain ⟨QL, hQL⟩ : ∃ QL : List (Nat × ByteArray), QL = (l.take m).map fun p => fitP N p.1 p.2.1 := ⟨_, rfl⟩
          have qAt : ∀ i, i < m → ∀ p : Wp, l[i]? = some p → QL[i]? = some (fitP N p.1 p.2.1) := fun i hi p hp => by
            rw [hQL, List.getElem?_map, List.getElem?_take, if_pos hi, hp]; rfl
          have qLn : m ≤ n → QL.length = m := fun h => by rw [hQL, List.length_map, List.length_take, ← HN.out]; omega
          have QA := Lib.hid qAt; have QN := Lib.hid qLn; have LAST := Lib.hid (show la = lastI f m by rw [hmk]; exact HLA.out)
          have t64 := t1
          clear qAt qLn hQL HLA t1
          by_cases h1 : k < n
          · obtain rfl := cond h1
            have h2 : (20 : Int) < (n : Int) := by omega
            have hend : ∀ i : Nat, ¬ (i < n ∧ i < 20) → i ≤ m → i = m := fun i h1 h2 => by omega
            have hbeg : ∀ i : Nat, (i < n ∧ i < 20) → i < m := fun i h => by omega
            have hmn : m ≤ n := by omega
            have hmm : m ≤ 20 := by omega
            have TS := Lib.hid (show m < n → m = 20 from fun _ => by omega); have HE := Lib.hid hend; have HBG := Lib.hid hbeg; have HMK := Lib.hid hmk
            clear cond hend hbeg hmk
            go_wp2
            go_loopg [16, 17, 18, 19] n (fun kx s16 s17 s18 s19 wr => ∃ (i nn : Nat) (VA : Option Addr) (vc : Nat) (d : Dk) (buf : List UInt8) (T : List (Nat × ByteArray)), s17 = .int .i64 (i : Int) ∧ i + kx = n ∧ i ≤ m ∧ s16 = .slice VA nn vc ∧ Hid (nn = (numsK f i).length) ∧ wr.ownsRow w.heap.size 3 1 (.slice VA nn vc) nn (iV (numsK f i)) ∧ Lb w wr g a b gb N d buf ∧ Hid (d.dur = b0 ∧ d.pend = QL.take i ∧ d.lost = false ∧ d.left = 0) ∧ Hid (buf = putAll b0 T ∧ TInv f (lastI f m) torn QL i T))
            case atStart => exact ⟨0, 0, none, 0, ⟨b0, b0, [], false, 0⟩, b0, [], rfl, by omega, by omega, rfl, Lib.hid rfl, World.ownsRow_nil _ _ _ _, MM.out, Lib.hid ⟨rfl, rfl, rfl, rfl⟩, Lib.hid ⟨rfl, TInv.zero _ _ _ _⟩⟩
            case round =>
              clear MM
              obtain ⟨k, nn, VA, vc, d, buf, T, rfl, hk, hkm, rfl, HNN, hO, hM, HD, HT⟩ := hrel
              by_cases hlt : k < n ∧ k < 20
              · have hkm2 := HBG.out k hlt
                obtain ⟨hlt, hlt2⟩ := hlt
                obtain ⟨p, hpk⟩ : ∃ p, l[k]? = some p := at_lt (by rw [← HN.out]; exact hlt)
                have hgd := HG.out p (List.mem_of_getElem? hpk)
                obtain ⟨bb, o, rfl, e0, e1, e2⟩ := HL.out.at hM.l.bel hpk
                obtain ⟨po, ps, y⟩ := p
                obtain ⟨⟨g1, g2⟩, g3⟩ := hgd
                dsimp only at e0 e1 e2 g1 g2 g3
                have hft := fun W => fits_any po ps y N g1 g2 g3 (by omega) W
                have hpf := fitP_fit N po ps
                obtain ⟨q, hq⟩ : ∃ q, q = fitP N po ps := ⟨_, rfl⟩
                rw [← hq] at hft hpf
                obtain ⟨qo, qs⟩ := q
                dsimp only at hft hpf
                have FT := Lib.hid hft; have HQ := Lib.hid hq; have HPK := Lib.hid hpk
                have kLi : (k : Int) < (n : Int) := by omega
                have kLj : (k : Int) < 20 := by omega
                clear hft hq hpk
                go_upto_region 24 with (go_at_call 26; (with_reducible refine (FT.out _).mono ?_); rintro e w5 ⟨rfl, b5⟩; have B5 := Lib.hid b5; clear b5)
                obtain ⟨W1, hW1⟩ : ∃ W1, W1 = w5.alloc (.cells #[.int .i64 qo, .string qs, .bool y] 53) := ⟨_, rfl⟩
                rw [← hW1]
                have rb : Row W1 w5.heap.size 53 #[.int .i64 qo, .string qs, .bool y] := by rw [hW1]; exact Row.made _ _ _
                have b6 : Below wr.heap.size wr W1 := by rw [hW1]; exact keep_alloc B5.out _
                obtain ⟨vb, hvb⟩ : ∃ vb, vb = w5.heap.size := ⟨_, rfl⟩
                rw [← hvb] at rb ⊢
                obtain ⟨x0, x1, x2, _, _, _⟩ := rb.three
                have RB := Lib.hid rb; have B6 := Lib.hid b6
                clear hW1 rb b6 e0 e1 e2 B5 FT hvb
                have hqk : QL[k]? = some (qo, qs) := by rw [HQ.out]; exact QA.out k hkm2 _ HPK.out
                have m1 := hM.step B6.out
                have o1 := own_over hO B6.out
                obtain ⟨dd1, dd2, dd3, dd4⟩ := HD.out
                have hpl : d.pend.length ≤ 20 := by rw [dd2, List.length_take]; omega
                obtain ⟨hE, hDD⟩ := write_ok (p := (qo, qs)) dd3 dd4 (by rw [m1.hn]; exact hpf)
                have hw := m1.l.write (by omega) qo (by omega) (by have := m1.l.ok.small; have := m1.hn; omega) qs (by have := m1.l.ok.small; have := m1.hn; omega)
                rw [hE, hDD] at hw
                obtain ⟨d2, hd2⟩ : ∃ d2, d2 = ({ d with vis := putB d.vis (qo, qs), pend := d.pend ++ [(qo, qs)] } : Dk) := ⟨_, rfl⟩
                rw [← hd2] at hw
                have hf2 : d2.dur.length = N ∧ (d2.dur = b0 ∧ d2.pend = QL.take (k + 1) ∧ d2.lost = false ∧ d2.left = 0) := by
                  rw [hd2]
                  refine ⟨m1.hn, dd1, ?_, dd3, dd4⟩
                  show d.pend ++ [(qo, qs)] = _
                  rw [List.take_add_one, hqk, dd2]; rfl
                have HW := Lib.hid hw; have M1 := Lib.hid m1; have O1 := Lib.hid o1; have HQK := Lib.hid hqk; have F1 := Lib.hid hf2.1; have HD2 := Lib.hid hf2.2
                clear hw m1 o1 hE hDD hd2 dd1 dd2 dd3 dd4 hf2 hqk hM hO HD hpl
                go_upto_region 26 with (go_at_call 21; (with_reducible refine (HW.out).mono ?_); rintro e w7 ⟨rfl, l7, st⟩; have M3 := Lib.hid (M1.out.turn l7 st F1.out); have rb3 := st.box RB.out; have RB3 := Lib.hid rb3; have O3 := Lib.hid (st.ints _ _ _ _ O1.out); clear l7 st x0 x1 x2; obtain ⟨x0, x1, x2, _, _, _⟩ := rb3.three; clear rb3)
                by_cases hkk : k < kn
                · obtain ⟨kb, ko, rfl, e0⟩ := FI.out _ M3.out.l.bel k hkk
                  have kLk : (k : Int) < (kn : Int) := by omega
                  cases hfk : f k with
                  | true =>
                    rw [hfk] at e0
                    have w7i : vb < w7.heap.size := RB3.out.inside
                    have o8 : (w7.alloc (.cells #[.int .i64 (k : Int)] 3)).ownsRow w7.heap.size 3 1 (.slice (some ⟨w7.heap.size, 0, none⟩) 1 1) 1 (flG i1 [(k : Int)]) := World.ownsRow_lit w7 #[.int .i64 (k : Int)] 1 (Nat.le_refl _) (by decide) (by simp)
                    have n8 : Nums (w7.alloc (.cells #[.int .i64 (k : Int)] 3)) (w7.alloc (.cells #[.int .i64 (k : Int)] 3)).heap.size VA (numsK f k) := by
                      have := own_nums (show w7.ownsRow w.heap.size 3 1 (.slice VA nn vc) nn (iV (numsK f k)) from O3.out)
                      exact this.deep (below_alloc _ _)
                    have O8 := Lib.hid o8; have N8 := Lib.hid (nums_cells n8)
                    have hnn := HNN.out
                    have hnl := numsK_len f k
                    have hn20 : nn ≤ 20 := by omega
                    have HFK := Lib.hid hfk; have HNL := Lib.hid hnn
                    clear o8 n8 hnn hnl hfk
                    go_upto_region 28 with (at_builtin; go_loud (refine wpList_append_G (enc := i1) i1_len Try.underlying37 int_info rfl (by decide) (by decide) rfl _ _ (by rfl) w7.heap.size _ 1 [(k : Int)] (by rfl) O8.out VA nn vc (numsK f k) (by rfl) HNL.out (fun y _ => i1_one y) N8.out (by omega) (by simp) ?_); intro v1 w9 o9 g9; obtain ⟨WA, wc9, rfl⟩ : ∃ A c, v1 = .slice A (1 + nn) c := (by rcases o9.2 with ⟨_, h0⟩ | ⟨g', cap', _, rfl, _⟩ <;> first | (exfalso; omega) | exact ⟨_, _, rfl⟩); have b9 := Lib.hid ((below_alloc w7 (.cells #[.int .i64 (k : Int)] 3)).grown g9 (by simp) (fun j ej => by cases ej; exact Nat.le_refl _)); have O9 := Lib.hid o9; have rb9 := RB3.out.step b9.out; clear o9 g9 x0 x1 x2; obtain ⟨x0, x1, x2, _, _, _⟩ := rb9.three; clear rb9)
                    have M9 := Lib.hid (M3.out.step b9.out)
                    have o9' : w9.ownsRow w.heap.size 3 1 (.slice WA (1 + nn) wc9) (1 + nn) (iV (numsK f (k + 1))) := by
                      have := own_less O9.out M3.out.l.bel.size
                      rw [show numsK f (k + 1) = (k : Int) :: numsK f k by (show (if f k then _ else _) = _; rw [HFK.out, if_pos rfl]), iV_G]
                      exact this
                    have OO9 := Lib.hid o9'
                    have hnn2 : 1 + nn = (numsK f (k + 1)).length := by
                      rw [show numsK f (k + 1) = (k : Int) :: numsK f k by (show (if f k then _ else _) = _; rw [HFK.out, if_pos rfl]), List.length_cons, ← HNL.out]; omega
                    have HN2 := Lib.hid hnn2
                    clear o9' hnn2 O8 N8 O9 e0
                    by_cases c1 : (k : Int) = la
                    · by_cases c2 : 0 ≤ torn
                      · obtain ⟨tn, htn⟩ : ∃ tn : Nat, torn = tn := ⟨torn.toNat, by omega⟩
                        have cs := fun W => cut_s qs tn (by have := M9.out.l.ok.small; have := M9.out.hn; omega) W
                        have hcs : cutB qs tn = cutB qs torn.toNat := by rw [htn]; rfl
                        rw [← htn, hcs] at cs
                        have CSS := Lib.hid cs
                        clear cs hcs htn
                        have hnx := HT.out.2.next HQK.out hkm2 HFK.out
                        rw [← LAST.out, if_pos ⟨c1, c2⟩] at hnx
                        have hfs : qo + ((cutB qs torn.toNat)).size ≤ N := by first | exact hpf | (rw [cutB_size]; omega)
                        have pt := put_any gb N N buf M9.out.hl (by omega) qo (cutB qs torn.toNat) hfs w9 M9.out.r
                        have hbb : putB buf (qo, (cutB qs torn.toNat)) = putAll b0 (T ++ [(qo, (cutB qs torn.toNat))]) := by rw [putAll_snoc, ← HT.out.1]
                        have PT := Lib.hid pt; have hnx2 : TInv f (lastI f m) torn QL (k + 1) (T ++ [(qo, (cutB qs torn.toNat))]) := (by rw [← LAST.out]; exact hnx); have HNX := Lib.hid (And.intro hbb hnx2); have HFS := Lib.hid hfs
                        clear pt hnx hnx2 hbb hfs
                        go_wp2_with first | (go_at_call 22; go_loud (refine (CSS.out _).mono ?_); rintro e w10 ⟨rfl, rfl⟩) | (go_at_call 27; go_loud (refine (PT.out).mono ?_); rintro e w10 ⟨rfl, rp, kp⟩; have M10 := Lib.hid (M9.out.fill (buf' := putB buf (qo, (cutB qs torn.toNat))) kp rp (by rw [putB_len (by rw [M9.out.hl]; exact HFS.out)]; exact M9.out.hl)); have O10 := Lib.hid (own_kept OO9.out kp (fun i hi e => own_ne M9.out.r OO9.out (by decide) (by rw [hi, e]))); clear rp kp)
                        go_roundg (n - (k + 1))
                        case measure => omega
                        case rel => exact ⟨k + 1, 1 + nn, WA, wc9, d2, putB buf (qo, (cutB qs torn.toNat)), T ++ [(qo, (cutB qs torn.toNat))], by go_num, by omega, by omega, rfl, HN2, O10.out, M10.out, HD2, HNX⟩
                      · have c3 : decide (0 ≤ torn) = false := decide_eq_false c2
                        have CSS := Lib.hid True.intro
                        have hnx := HT.out.2.next HQK.out hkm2 HFK.out
                        rw [← LAST.out, if_neg (fun h => c2 h.2)] at hnx
                        have hfs : qo + (qs).size ≤ N := by first | exact hpf | (rw [cutB_size]; omega)
                        have pt := put_any gb N N buf M9.out.hl (by omega) qo qs hfs w9 M9.out.r
                        have hbb : putB buf (qo, qs) = putAll b0 (T ++ [(qo, qs)]) := by rw [putAll_snoc, ← HT.out.1]
                        have PT := Lib.hid pt; have hnx2 : TInv f (lastI f m) torn QL (k + 1) (T ++ [(qo, qs)]) := (by rw [← LAST.out]; exact hnx); have HNX := Lib.hid (And.intro hbb hnx2); have HFS := Lib.hid hfs
                        clear pt hnx hnx2 hbb hfs
                        go_wp2_with first | (go_at_call 22; go_loud (refine (CSS.out _).mono ?_); rintro e w10 ⟨rfl, rfl⟩) | (go_at_call 27; go_loud (refine (PT.out).mono ?_); rintro e w10 ⟨rfl, rp, kp⟩; have M10 := Lib.hid (M9.out.fill (buf' := putB buf (qo, qs)) kp rp (by rw [putB_len (by rw [M9.out.hl]; exact HFS.out)]; exact M9.out.hl)); have O10 := Lib.hid (own_kept OO9.out kp (fun i hi e => own_ne M9.out.r OO9.out (by decide) (by rw [hi, e]))); clear rp kp)
                        go_roundg (n - (k + 1))
                        case measure => omega
                        case rel => exact ⟨k + 1, 1 + nn, WA, wc9, d2, putB buf (qo, qs), T ++ [(qo, qs)], by go_num, by omega, by omega, rfl, HN2, O10.out, M10.out, HD2, HNX⟩
                    · have c3 : ((k : Int) == la) = false := by simpa using c1
                      have CSS := Lib.hid True.intro
                      have hnx := HT.out.2.next HQK.out hkm2 HFK.out
                      rw [← LAST.out, if_neg (fun h => c1 h.1)] at hnx
                      have hfs : qo + (qs).size ≤ N := by first | exact hpf | (rw [cutB_size]; omega)
                      have pt := put_any gb N N buf M9.out.hl (by omega) qo qs hfs w9 M9.out.r
                      have hbb : putB buf (qo, qs) = putAll b0 (T ++ [(qo, qs)]) := by rw [putAll_snoc, ← HT.out.1]
                      have PT := Lib.hid pt; have hnx2 : TInv f (lastI f m) torn QL (k + 1) (T ++ [(qo, qs)]) := (by rw [← LAST.out]; exact hnx); have HNX := Lib.hid (And.intro hbb hnx2); have HFS := Lib.hid hfs
                      clear pt hnx hnx2 hbb hfs
                      go_wp2_with first | (go_at_call 22; go_loud (refine (CSS.out _).mono ?_); rintro e w10 ⟨rfl, rfl⟩) | (go_at_call 27; go_loud (refine (PT.out).mono ?_); rintro e w10 ⟨rfl, rp, kp⟩; have M10 := Lib.hid (M9.out.fill (buf' := putB buf (qo, qs)) kp rp (by rw [putB_len (by rw [M9.out.hl]; exact HFS.out)]; exact M9.out.hl)); have O10 := Lib.hid (own_kept OO9.out kp (fun i hi e => own_ne M9.out.r OO9.out (by decide) (by rw [hi, e]))); clear rp kp)
                      go_roundg (n - (k + 1))
                      case measure => omega
                      case rel => exact ⟨k + 1, 1 + nn, WA, wc9, d2, putB buf (qo, qs), T ++ [(qo, qs)], by go_num, by omega, by omega, rfl, HN2, O10.out, M10.out, HD2, HNX⟩
                  | false =>
                    rw [hfk] at e0
                    have hn1 : numsK f (k + 1) = numsK f k := by show (if f k then _ else _) = _; rw [hfk, if_neg Bool.false_ne_true]
                    have HN1 := Lib.hid hn1; have HTS := Lib.hid (And.intro HT.out.1 (HT.out.2.skip HQK.out hfk))
                    clear hn1 hfk
                    go_wp2
                    go_roundg (n - (k + 1))
                    case measure => omega
                    case rel => exact ⟨k + 1, nn, VA, vc, d2, buf, T, by go_num, by omega, by omega, rfl, by rw [HN1.out]; exact HNN, by rw [HN1.out]; exact O3.out, M3.out, HD2, HTS⟩
                · have hfk := FO.out k hkk
                  have kLk : ¬ (k : Int) < (kn : Int) := by omega
                  have kLd : decide ((k : Int) < (kn : Int)) = false := decide_eq_false kLk
                  have hn1 : numsK f (k + 1) = numsK f k := by show (if f k then _ else _) = _; rw [hfk, if_neg Bool.false_ne_true]
                  have HN1 := Lib.hid hn1; have HTS := Lib.hid (And.intro HT.out.1 (HT.out.2.skip HQK.out hfk))
                  clear hn1 hfk hkk
                  go_wp2
                  go_roundg (n - (k + 1))
                  case measure => omega
                  case rel => exact ⟨k + 1, nn, VA, vc, d2, buf, T, by go_num, by omega, by omega, rfl, by rw [HN1.out]; exact HNN, by rw [HN1.out]; exact O3.out, M3.out, HD2, HTS⟩
              · have ekm := HE.out k hlt hkm
                subst ekm
                obtain ⟨dd1, dd2, dd3, dd4⟩ := HD.out
                obtain ⟨ht1, ht2⟩ := HT.out
                have hql := QN.out hmn
                have hdp : d.pend = QL := by rw [dd2]; exact List.take_of_length_le (by rw [hql]; exact Nat.le_refl _)
                have hct := crash_torn (d := d) (m := k) (by rw [hdp, hql]) (T := T) (by rw [hdp]; exact ht2)
                rw [dd1, ← ht1] at hct
                have hcr := hM.l.crash (by rw [hdp, hql]; omega) VA vc (numsK f k) (own_nums hO) (by have := numsK_len f k; omega) torn
                rw [hct, ← HNN.out] at hcr
                have rd9 : ∀ W : World, Ld w W g a b ⟨buf, buf, [], false, 0⟩ → Calls Try.prog 14 #[.pointer (some ⟨g, 0, none⟩), .int .i64 0, .int .i64 N] W fun e w' => e = .returned (.tuple #[.string (strB buf), .int .i64 0]) ∧ w' = W := fun W hW => by
                  have hr := hW.read 0 N (by decide) (by decide)
                  obtain ⟨r1, r2⟩ := read_all hW.ok rfl hM.hl
                  rw [r1, r2] at hr
                  exact hr
                have cv : ∀ W : World, Row W gb 5 (byteCells buf).toArray → (convert 40 9 (.slice (some ⟨gb, 0, none⟩) N N)).run Try.prog W = .ok (.string (strB buf)) W := fun W hr => by
                  have hc := conv_bytes (cap := N) hr (o := 0) (k := N) (by rw [hM.hl]; omega) 40 Try.underlying40
                  rw [List.drop_zero, List.take_of_length_le (by rw [hM.hl]; exact Nat.le_refl _)] at hc
                  exact hc
                have HCR := Lib.hid hcr; have RD9 := Lib.hid rd9; have CV := Lib.hid cv; have MR := Lib.hid hM
                obtain ⟨S, hS⟩ : ∃ S, S = strB buf := ⟨_, rfl⟩
                rw [← hS] at RD9 CV
                clear hcr rd9 cv hct hdp hql ht1 ht2 dd1 dd2 dd3 dd4 hM hO HD HT hS
                have tests : (k < n → k = 20) := TS.out
                by_cases g1 : k < n
                · have g2 := tests g1
                  have g3 : ¬ (k : Int) < 20 := by omega
                  have g5 : decide ((k : Int) < 20) = false := decide_eq_false g3
                  have g4 : (k : Int) < (n : Int) := by omega
                  clear tests hlt g2
                  go_upto_region 33 with (go_at_call 25; (with_reducible refine (HCR.out).mono ?_); rintro e w9 ⟨rfl, l9, st⟩; have r9 := RD9.out _ l9; have cv9 := CV.out _ (st.buf MR.out.r MR.out.na MR.out.nb); have R9 := Lib.hid r9; have L9 := Lib.hid l9; clear r9 l9 st)
                  go_wp2_with (go_at_call 14; (with_reducible refine (R9.out).mono ?_); rintro e w10 ⟨rfl, rfl⟩)
                  go_ret
                  exact ⟨rfl, L9.out.bel⟩
                · have g4 : ¬ (k : Int) < (n : Int) := by omega
                  have g5 : decide ((k : Int) < (n : Int)) = false := decide_eq_false g4
                  clear tests hlt
                  go_upto_region 33 with (go_at_call 25; (with_reducible refine (HCR.out).mono ?_); rintro e w9 ⟨rfl, l9, st⟩; have r9 := RD9.out _ l9; have cv9 := CV.out _ (st.buf MR.out.r MR.out.na MR.out.nb); have R9 := Lib.hid r9; have L9 := Lib.hid l9; clear r9 l9 st)
                  go_wp2_with (go_at_call 14; (with_reducible refine (R9.out).mono ?_); rintro e w10 ⟨rfl, rfl⟩)
                  go_ret
                  exact ⟨rfl, L9.out.bel⟩
          · have e : k = n := by omega
            have h2 : ¬ (k : Int) < (n : Int) := by omega
            have hend : ∀ i : Nat, ¬ (i < n ∧ i < 20) → i ≤ m → i = m := fun i h1 h2 => by omega
            have hbeg : ∀ i : Nat, (i < n ∧ i < 20) → i < m := fun i h => by omega
            have hmn : m ≤ n := by omega
            have hmm : m ≤ 20 := by omega
            have TS := Lib.hid (show m < n → m = 20 from fun _ => by omega); have HE := Lib.hid hend; have HBG := Lib.hid hbeg; have HMK := Lib.hid hmk
            clear cond hend hbeg hmk e h1
            go_wp2
            go_loopg [16, 17, 18, 19] n (fun kx s16 s17 s18 s19 wr => ∃ (i nn : Nat) (VA : Option Addr) (vc : Nat) (d : Dk) (buf : List UInt8) (T : List (Nat × ByteArray)), s17 = .int .i64 (i : Int) ∧ i + kx = n ∧ i ≤ m ∧ s16 = .slice VA nn vc ∧ Hid (nn = (numsK f i).length) ∧ wr.ownsRow w.heap.size 3 1 (.slice VA nn vc) nn (iV (numsK f i)) ∧ Lb w wr g a b gb N d buf ∧ Hid (d.dur = b0 ∧ d.pend = QL.take i ∧ d.lost = false ∧ d.left = 0) ∧ Hid (buf = putAll b0 T ∧ TInv f (lastI f m) torn QL i T))
            case atStart => exact ⟨0, 0, none, 0, ⟨b0, b0, [], false, 0⟩, b0, [], rfl, by omega, by omega, rfl, Lib.hid rfl, World.ownsRow_nil _ _ _ _, MM.out, Lib.hid ⟨rfl, rfl, rfl, rfl⟩, Lib.hid ⟨rfl, TInv.zero _ _ _ _⟩⟩
            case round =>
              clear MM
              obtain ⟨k, nn, VA, vc, d, buf, T, rfl, hk, hkm, rfl, HNN, hO, hM, HD, HT⟩ := hrel
              by_cases hlt : k < n ∧ k < 20
              · have hkm2 := HBG.out k hlt
                obtain ⟨hlt, hlt2⟩ := hlt
                obtain ⟨p, hpk⟩ : ∃ p, l[k]? = some p := at_lt (by rw [← HN.out]; exact hlt)
                have hgd := HG.out p (List.mem_of_getElem? hpk)
                obtain ⟨bb, o, rfl, e0, e1, e2⟩ := HL.out.at hM.l.bel hpk
                obtain ⟨po, ps, y⟩ := p
                obtain ⟨⟨g1, g2⟩, g3⟩ := hgd
                dsimp only at e0 e1 e2 g1 g2 g3
                have hft := fun W => fits_any po ps y N g1 g2 g3 (by omega) W
                have hpf := fitP_fit N po ps
                obtain ⟨q, hq⟩ : ∃ q, q = fitP N po ps := ⟨_, rfl⟩
                rw [← hq] at hft hpf
                obtain ⟨qo, qs⟩ := q
                dsimp only at hft hpf
                have FT := Lib.hid hft; have HQ := Lib.hid hq; have HPK := Lib.hid hpk
                have kLi : (k : Int) < (n : Int) := by omega
                have kLj : (k : Int) < 20 := by omega
                clear hft hq hpk
                go_upto_region 24 with (go_at_call 26; (with_reducible refine (FT.out _).mono ?_); rintro e w5 ⟨rfl, b5⟩; have B5 := Lib.hid b5; clear b5)
                obtain ⟨W1, hW1⟩ : ∃ W1, W1 = w5.alloc (.cells #[.int .i64 qo, .string qs, .bool y] 53) := ⟨_, rfl⟩
                rw [← hW1]
                have rb : Row W1 w5.heap.size 53 #[.int .i64 qo, .string qs, .bool y] := by rw [hW1]; exact Row.made _ _ _
                have b6 : Below wr.heap.size wr W1 := by rw [hW1]; exact keep_alloc B5.out _
                obtain ⟨vb, hvb⟩ : ∃ vb, vb = w5.heap.size := ⟨_, rfl⟩
                rw [← hvb] at rb ⊢
                obtain ⟨x0, x1, x2, _, _, _⟩ := rb.three
                have RB := Lib.hid rb; have B6 := Lib.hid b6
                clear hW1 rb b6 e0 e1 e2 B5 FT hvb
                have hqk : QL[k]? = some (qo, qs) := by rw [HQ.out]; exact QA.out k hkm2 _ HPK.out
                have m1 := hM.step B6.out
                have o1 := own_over hO B6.out
                obtain ⟨dd1, dd2, dd3, dd4⟩ := HD.out
                have hpl : d.pend.length ≤ 20 := by rw [dd2, List.length_take]; omega
                obtain ⟨hE, hDD⟩ := write_ok (p := (qo, qs)) dd3 dd4 (by rw [m1.hn]; exact hpf)
                have hw := m1.l.write (by omega) qo (by omega) (by have := m1.l.ok.small; have := m1.hn; omega) qs (by have := m1.l.ok.small; have := m1.hn; omega)
                rw [hE, hDD] at hw
                obtain ⟨d2, hd2⟩ : ∃ d2, d2 = ({ d with vis := putB d.vis (qo, qs), pend := d.pend ++ [(qo, qs)] } : Dk) := ⟨_, rfl⟩
                rw [← hd2] at hw
                have hf2 : d2.dur.length = N ∧ (d2.dur = b0 ∧ d2.pend = QL.take (k + 1) ∧ d2.lost = false ∧ d2.left = 0) := by
                  rw [hd2]
                  refine ⟨m1.hn, dd1, ?_, dd3, dd4⟩
                  show d.pend ++ [(qo, qs)] = _
                  rw [List.take_add_one, hqk, dd2]; rfl
                have HW := Lib.hid hw; have M1 := Lib.hid m1; have O1 := Lib.hid o1; have HQK := Lib.hid hqk; have F1 := Lib.hid hf2.1; have HD2 := Lib.hid hf2.2
                clear hw m1 o1 hE hDD hd2 dd1 dd2 dd3 dd4 hf2 hqk hM hO HD hpl
                go_upto_region 26 with (go_at_call 21; (with_reducible refine (HW.out).mono ?_); rintro e w7 ⟨rfl, l7, st⟩; have M3 := Lib.hid (M1.out.turn l7 st F1.out); have rb3 := st.box RB.out; have RB3 := Lib.hid rb3; have O3 := Lib.hid (st.ints _ _ _ _ O1.out); clear l7 st x0 x1 x2; obtain ⟨x0, x1, x2, _, _, _⟩ := rb3.three; clear rb3)
                by_cases hkk : k < kn
                · obtain ⟨kb, ko, rfl, e0⟩ := FI.out _ M3.out.l.bel k hkk
                  have kLk : (k : Int) < (kn : Int) := by omega
                  cases hfk : f k with
                  | true =>
                    rw [hfk] at e0
                    have w7i : vb < w7.heap.size := RB3.out.inside
                    have o8 : (w7.alloc (.cells #[.int .i64 (k : Int)] 3)).ownsRow w7.heap.size 3 1 (.slice (some ⟨w7.heap.size, 0, none⟩) 1 1) 1 (flG i1 [(k : Int)]) := World.ownsRow_lit w7 #[.int .i64 (k : Int)] 1 (Nat.le_refl _) (by decide) (by simp)
                    have n8 : Nums (w7.alloc (.cells #[.int .i64 (k : Int)] 3)) (w7.alloc (.cells #[.int .i64 (k : Int)] 3)).heap.size VA (numsK f k) := by
                      have := own_nums (show w7.ownsRow w.heap.size 3 1 (.slice VA nn vc) nn (iV (numsK f k)) from O3.out)
                      exact this.deep (below_alloc _ _)
                    have O8 := Lib.hid o8; have N8 := Lib.hid (nums_cells n8)
                    have hnn := HNN.out
                    have hnl := numsK_len f k
                    have hn20 : nn ≤ 20 := by omega
                    have HFK := Lib.hid hfk; have HNL := Lib.hid hnn
                    clear o8 n8 hnn hnl hfk
                    go_upto_region 28 with (at_builtin; go_loud (refine wpList_append_G (enc := i1) i1_len Try.underlying37 int_info rfl (by decide) (by decide) rfl _ _ (by rfl) w7.heap.size _ 1 [(k : Int)] (by rfl) O8.out VA nn vc (numsK f k) (by rfl) HNL.out (fun y _ => i1_one y) N8.out (by omega) (by simp) ?_); intro v1 w9 o9 g9; obtain ⟨WA, wc9, rfl⟩ : ∃ A c, v1 = .slice A (1 + nn) c := (by rcases o9.2 with ⟨_, h0⟩ | ⟨g', cap', _, rfl, _⟩ <;> first | (exfalso; omega) | exact ⟨_, _, rfl⟩); have b9 := Lib.hid ((below_alloc w7 (.cells #[.int .i64 (k : Int)] 3)).grown g9 (by simp) (fun j ej => by cases ej; exact Nat.le_refl _)); have O9 := Lib.hid o9; have rb9 := RB3.out.step b9.out; clear o9 g9 x0 x1 x2; obtain ⟨x0, x1, x2, _, _, _⟩ := rb9.three; clear rb9)
                    have M9 := Lib.hid (M3.out.step b9.out)
                    have o9' : w9.ownsRow w.heap.size 3 1 (.slice WA (1 + nn) wc9) (1 + nn) (iV (numsK f (k + 1))) := by
                      have := own_less O9.out M3.out.l.bel.size
                      rw [show numsK f (k + 1) = (k : Int) :: numsK f k by (show (if f k then _ else _) = _; rw [HFK.out, if_pos rfl]), iV_G]
                      exact this
                    have OO9 := Lib.hid o9'
                    have hnn2 : 1 + nn = (numsK f (k + 1)).length := by
                      rw [show numsK f (k + 1) = (k : Int) :: numsK f k by (show (if f k then _ else _) = _; rw [HFK.out, if_pos rfl]), List.length_cons, ← HNL.out]; omega
                    have HN2 := Lib.hid hnn2
                    clear o9' hnn2 O8 N8 O9 e0
                    by_cases c1 : (k : Int) = la
                    · by_cases c2 : 0 ≤ torn
                      · obtain ⟨tn, htn⟩ : ∃ tn : Nat, torn = tn := ⟨torn.toNat, by omega⟩
                        have cs := fun W => cut_s qs tn (by have := M9.out.l.ok.small; have := M9.out.hn; omega) W
                        have hcs : cutB qs tn = cutB qs torn.toNat := by rw [htn]; rfl
                        rw [← htn, hcs] at cs
                        have CSS := Lib.hid cs
                        clear cs hcs htn
                        have hnx := HT.out.2.next HQK.out hkm2 HFK.out
                        rw [← LAST.out, if_pos ⟨c1, c2⟩] at hnx
                        have hfs : qo + ((cutB qs torn.toNat)).size ≤ N := by first | exact hpf | (rw [cutB_size]; omega)
                        have pt := put_any gb N N buf M9.out.hl (by omega) qo (cutB qs torn.toNat) hfs w9 M9.out.r
                        have hbb : putB buf (qo, (cutB qs torn.toNat)) = putAll b0 (T ++ [(qo, (cutB qs torn.toNat))]) := by rw [putAll_snoc, ← HT.out.1]
                        have PT := Lib.hid pt; have hnx2 : TInv f (lastI f m) torn QL (k + 1) (T ++ [(qo, (cutB qs torn.toNat))]) := (by rw [← LAST.out]; exact hnx); have HNX := Lib.hid (And.intro hbb hnx2); have HFS := Lib.hid hfs
                        clear pt hnx hnx2 hbb hfs
                        go_wp2_with first | (go_at_call 22; go_loud (refine (CSS.out _).mono ?_); rintro e w10 ⟨rfl, rfl⟩) | (go_at_call 27; go_loud (refine (PT.out).mono ?_); rintro e w10 ⟨rfl, rp, kp⟩; have M10 := Lib.hid (M9.out.fill (buf' := putB buf (qo, (cutB qs torn.toNat))) kp rp (by rw [putB_len (by rw [M9.out.hl]; exact HFS.out)]; exact M9.out.hl)); have O10 := Lib.hid (own_kept OO9.out kp (fun i hi e => own_ne M9.out.r OO9.out (by decide) (by rw [hi, e]))); clear rp kp)
                        go_roundg (n - (k + 1))
                        case measure => omega
                        case rel => exact ⟨k + 1, 1 + nn, WA, wc9, d2, putB buf (qo, (cutB qs torn.toNat)), T ++ [(qo, (cutB qs torn.toNat))], by go_num, by omega, by omega, rfl, HN2, O10.out, M10.out, HD2, HNX⟩
                      · have c3 : decide (0 ≤ torn) = false := decide_eq_false c2
                        have CSS := Lib.hid True.intro
                        have hnx := HT.out.2.next HQK.out hkm2 HFK.out
                        rw [← LAST.out, if_neg (fun h => c2 h.2)] at hnx
                        have hfs : qo + (qs).size ≤ N := by first | exact hpf | (rw [cutB_size]; omega)
                        have pt := put_any gb N N buf M9.out.hl (by omega) qo qs hfs w9 M9.out.r
                        have hbb : putB buf (qo, qs) = putAll b0 (T ++ [(qo, qs)]) := by rw [putAll_snoc, ← HT.out.1]
                        have PT := Lib.hid pt; have hnx2 : TInv f (lastI f m) torn QL (k + 1) (T ++ [(qo, qs)]) := (by rw [← LAST.out]; exact hnx); have HNX := Lib.hid (And.intro hbb hnx2); have HFS := Lib.hid hfs
                        clear pt hnx hnx2 hbb hfs
                        go_wp2_with first | (go_at_call 22; go_loud (refine (CSS.out _).mono ?_); rintro e w10 ⟨rfl, rfl⟩) | (go_at_call 27; go_loud (refine (PT.out).mono ?_); rintro e w10 ⟨rfl, rp, kp⟩; have M10 := Lib.hid (M9.out.fill (buf' := putB buf (qo, qs)) kp rp (by rw [putB_len (by rw [M9.out.hl]; exact HFS.out)]; exact M9.out.hl)); have O10 := Lib.hid (own_kept OO9.out kp (fun i hi e => own_ne M9.out.r OO9.out (by decide) (by rw [hi, e]))); clear rp kp)
                        go_roundg (n - (k + 1))
                        case measure => omega
                        case rel => exact ⟨k + 1, 1 + nn, WA, wc9, d2, putB buf (qo, qs), T ++ [(qo, qs)], by go_num, by omega, by omega, rfl, HN2, O10.out, M10.out, HD2, HNX⟩
                    · have c3 : ((k : Int) == la) = false := by simpa using c1
                      have CSS := Lib.hid True.intro
                      have hnx := HT.out.2.next HQK.out hkm2 HFK.out
                      rw [← LAST.out, if_neg (fun h => c1 h.1)] at hnx
                      have hfs : qo + (qs).size ≤ N := by first | exact hpf | (rw [cutB_size]; omega)
                      have pt := put_any gb N N buf M9.out.hl (by omega) qo qs hfs w9 M9.out.r
                      have hbb : putB buf (qo, qs) = putAll b0 (T ++ [(qo, qs)]) := by rw [putAll_snoc, ← HT.out.1]
                      have PT := Lib.hid pt; have hnx2 : TInv f (lastI f m) torn QL (k + 1) (T ++ [(qo, qs)]) := (by rw [← LAST.out]; exact hnx); have HNX := Lib.hid (And.intro hbb hnx2); have HFS := Lib.hid hfs
                      clear pt hnx hnx2 hbb hfs
                      go_wp2_with first | (go_at_call 22; go_loud (refine (CSS.out _).mono ?_); rintro e w10 ⟨rfl, rfl⟩) | (go_at_call 27; go_loud (refine (PT.out).mono ?_); rintro e w10 ⟨rfl, rp, kp⟩; have M10 := Lib.hid (M9.out.fill (buf' := putB buf (qo, qs)) kp rp (by rw [putB_len (by rw [M9.out.hl]; exact HFS.out)]; exact M9.out.hl)); have O10 := Lib.hid (own_kept OO9.out kp (fun i hi e => own_ne M9.out.r OO9.out (by decide) (by rw [hi, e]))); clear rp kp)
                      go_roundg (n - (k + 1))
                      case measure => omega
                      case rel => exact ⟨k + 1, 1 + nn, WA, wc9, d2, putB buf (qo, qs), T ++ [(qo, qs)], by go_num, by omega, by omega, rfl, HN2, O10.out, M10.out, HD2, HNX⟩
                  | false =>
                    rw [hfk] at e0
                    have hn1 : numsK f (k + 1) = numsK f k := by show (if f k then _ else _) = _; rw [hfk, if_neg Bool.false_ne_true]
                    have HN1 := Lib.hid hn1; have HTS := Lib.hid (And.intro HT.out.1 (HT.out.2.skip HQK.out hfk))
                    clear hn1 hfk
                    go_wp2
                    go_roundg (n - (k + 1))
                    case measure => omega
                    case rel => exact ⟨k + 1, nn, VA, vc, d2, buf, T, by go_num, by omega, by omega, rfl, by rw [HN1.out]; exact HNN, by rw [HN1.out]; exact O3.out, M3.out, HD2, HTS⟩
                · have hfk := FO.out k hkk
                  have kLk : ¬ (k : Int) < (kn : Int) := by omega
                  have kLd : decide ((k : Int) < (kn : Int)) = false := decide_eq_false kLk
                  have hn1 : numsK f (k + 1) = numsK f k := by show (if f k then _ else _) = _; rw [hfk, if_neg Bool.false_ne_true]
                  have HN1 := Lib.hid hn1; have HTS := Lib.hid (And.intro HT.out.1 (HT.out.2.skip HQK.out hfk))
                  clear hn1 hfk hkk
                  go_wp2
                  go_roundg (n - (k + 1))
                  case measure => omega
                  case rel => exact ⟨k + 1, nn, VA, vc, d2, buf, T, by go_num, by omega, by omega, rfl, by rw [HN1.out]; exact HNN, by rw [HN1.out]; exact O3.out, M3.out, HD2, HTS⟩
              · have ekm := HE.out k hlt hkm
                subst ekm
                obtain ⟨dd1, dd2, dd3, dd4⟩ := HD.out
                obtain ⟨ht1, ht2⟩ := HT.out
                have hql := QN.out hmn
                have hdp : d.pend = QL := by rw [dd2]; exact List.take_of_length_le (by rw [hql]; exact Nat.le_refl _)
                have hct := crash_torn (d := d) (m := k) (by rw [hdp, hql]) (T := T) (by rw [hdp]; exact ht2)
                rw [dd1, ← ht1] at hct
                have hcr := hM.l.crash (by rw [hdp, hql]; omega) VA vc (numsK f k) (own_nums hO) (by have := numsK_len f k; omega) torn
                rw [hct, ← HNN.out] at hcr
                have rd9 : ∀ W : World, Ld w W g a b ⟨buf, buf, [], false, 0⟩ → Calls Try.prog 14 #[.pointer (some ⟨g, 0, none⟩), .int .i64 0, .int .i64 N] W fun e w' => e = .returned (.tuple #[.string (strB buf), .int .i64 0]) ∧ w' = W := fun W hW => by
                  have hr := hW.read 0 N (by decide) (by decide)
                  obtain ⟨r1, r2⟩ := read_all hW.ok rfl hM.hl
                  rw [r1, r2] at hr
                  exact hr
                have cv : ∀ W : World, Row W gb 5 (byteCells buf).toArray → (convert 40 9 (.slice (some ⟨gb, 0, none⟩) N N)).run Try.prog W = .ok (.string (strB buf)) W := fun W hr => by
                  have hc := conv_bytes (cap := N) hr (o := 0) (k := N) (by rw [hM.hl]; omega) 40 Try.underlying40
                  rw [List.drop_zero, List.take_of_length_le (by rw [hM.hl]; exact Nat.le_refl _)] at hc
                  exact hc
                have HCR := Lib.hid hcr; have RD9 := Lib.hid rd9; have CV := Lib.hid cv; have MR := Lib.hid hM
                obtain ⟨S, hS⟩ : ∃ S, S = strB buf := ⟨_, rfl⟩
                rw [← hS] at RD9 CV
                clear hcr rd9 cv hct hdp hql ht1 ht2 dd1 dd2 dd3 dd4 hM hO HD HT hS
                have tests : (k < n → k = 20) := TS.out
                by_cases g1 : k < n
                · have g2 := tests g1
                  have g3 : ¬ (k : Int) < 20 := by omega
                  have g5 : decide ((k : Int) < 20) = false := decide_eq_false g3
                  have g4 : (k : Int) < (n : Int) := by omega
                  clear tests hlt g2
                  go_upto_region 33 with (go_at_call 25; (with_reducible refine (HCR.out).mono ?_); rintro e w9 ⟨rfl, l9, st⟩; have r9 := RD9.out _ l9; have cv9 := CV.out _ (st.buf MR.out.r MR.out.na MR.out.nb); have R9 := Lib.hid r9; have L9 := Lib.hid l9; clear r9 l9 st)
                  go_wp2_with (go_at_call 14; (with_reducible refine (R9.out).mono ?_); rintro e w10 ⟨rfl, rfl⟩)
                  go_ret
                  exact ⟨rfl, L9.out.bel⟩
                · have g4 : ¬ (k : Int) < (n : Int) := by omega
                  have g5 : decide ((k : Int) < (n : Int)) = false := decide_eq_false g4
                  clear tests hlt
                  go_upto_region 33 with (go_at_call 25; (with_reducible refine (HCR.out).mono ?_); rintro e w9 ⟨rfl, l9, st⟩; have r9 := RD9.out _ l9; have cv9 := CV.out _ (st.buf MR.out.r MR.out.na MR.out.nb); have R9 := Lib.hid r9; have L9 := Lib.hid l9; clear r9 l9 st)
                  go_wp2_with (go_at_call 14; (with_reducible refine (R9.out).mono ?_); rintro e w10 ⟨rfl, rfl⟩)
                  go_ret
                  exact ⟨rfl, L9.out.bel⟩
end Go.Proofs.Ytghcffpcblficaa
