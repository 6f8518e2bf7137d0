/- The reference's Long: some fraction of at most 100 digits. -/
import Derived.Test.YtgpncnnlhhmjaaaGreatDoorSmq
import Derived.Laws.BytesString
namespace Go.Proofs.YtgpncnnlhhmjaaaGreatDoor
open Go.RowKit

/-- A digit string that needs no cutting is a numeral. -/
theorem digits_dec {S : ByteArray} (hd : S.data.toList.all dig = true) (h1 : 0 < S.size) (h2 : S.size ≤ 100) (h3 : S.size ≤ 1 ∨ S.data.toList.head? ≠ some 48) :
    ∃ z : Nat, S = dec (z : Int) ∧ z < 10 ^ 100 := by
  have hl : S.data.toList.length = S.size := Array.length_toList
  have hneg : isNeg S.data.toList = false := by
    match hs : S.data.toList with
    | [] => rfl
    | b :: r =>
      rw [hs] at hd
      have hb := (Bool.and_eq_true _ _ ▸ hd : dig b = true ∧ r.all dig = true).1
      simp only [isNeg, List.head?_cons]
      simp only [dig, Bool.and_eq_true, decide_eq_true_eq] at hb
      rw [beq_eq_false_iff_ne]
      intro e
      have : b = 45 := by simpa using e
      subst this
      simp at hb
  have hm : mag S.data.toList = S.data.toList := by rw [mag, hneg]; rfl
  have hc : canN S.data.toList = true := by
    rw [canN, hd, Bool.true_and, Bool.or_eq_true]
    match hs : S.data.toList with
    | [] => rw [hs] at hl; simp at hl; omega
    | [b] =>
      by_cases hb : b = 48
      · left; rw [hb]; rfl
      · right; simp [hb]
    | b :: c :: r =>
      right
      rcases h3 with h | h
      · rw [hs] at hl; simp at hl; omega
      · rw [hs] at h; simpa using h
  have hv : validB S.data.toList = true := by
    rw [validB, hm, hc, hneg, decide_eq_true (by omega)]; rfl
  have hz : numB S = (val S.data.toList : Int) := by rw [numB, num, hneg, hm]; rfl
  refine ⟨val S.data.toList, ?_, ?_⟩
  · rw [← hz, dec_numB S hv]
  · exact Nat.lt_of_lt_of_le (val_lt _ hd) (Nat.pow_le_pow_right (by decide) (by omega))
/-- A string of at most 100 digits that is not empty and does not begin with 0, unless it is 0. -/
def Num100 (S : ByteArray) : Prop := ∃ z : Nat, S = dec (z : Int) ∧ z < 10 ^ 100
theorem one_conv (W : World) (g : Nat) (hg : g < 256) : (convert 48 9 (.slice (some ⟨W.heap.size, 0, none⟩) 1 1)).run Tryz.prog (W.alloc (.cells #[.int .u8 (g : Int)] 5)) = .ok (.string ⟨#[UInt8.ofNat g]⟩) (W.alloc (.cells #[.int .u8 (g : Int)] 5)) := by
  have hu : ((UInt8.ofNat g).toNat : Int) = (g : Int) := by rw [UInt8.toNat_ofNat']; omega
  have hX := Row.made W 5 #[.int .u8 (g : Int)]
  have := run_convert_bytes_back (P := Tryz.prog) (W.alloc (.cells #[.int .u8 (g : Int)] 5)) 48 9 5 ⟨W.heap.size, 0, none⟩ 1 [UInt8.ofNat g] Tryz.underlying48 Tryz.underlying5 Tryz.underlying9 (by
    intro i hi
    have hi0 : i = 0 := by simp at hi; omega
    subst hi0
    have e0 : (⟨W.heap.size, 0, none⟩ : Addr).add 0 = ⟨W.heap.size, 0, none⟩ := by unfold Addr.add; split <;> simp_all
    rw [e0, hX.at (i := 0) (v := .int .u8 (g : Int)) rfl]
    simp [hu]
    omega)
  exact this
/-- One step of the sequence, and the digit that it gives. -/
theorem lcg (e : Int) (h0 : 0 ≤ e) (h1 : e < 2147483647) : ∃ (e2 t : Int) (f g : Nat), (e * 48271 + 11).tmod 2147483647 = e2 ∧ 0 ≤ e2 ∧ e2 < 2147483647 ∧ e2.tdiv 65536 = t ∧ t.tmod 10 = (f : Int) ∧ 48 ≤ g ∧ g ≤ 57 ∧ wrap64 (48 + (f : Int)) = (g : Int) ∧ wrap64 t = t ∧ (g : Int) % 256 = (g : Int) := by
  have a1 : (e * 48271 + 11).tmod 2147483647 = (e * 48271 + 11) % 2147483647 := Int.tmod_eq_emod_of_nonneg (by omega)
  generalize hz : (e * 48271 + 11) % 2147483647 = z at a1
  have z0 : 0 ≤ z ∧ z < 2147483647 := by omega
  have a2 : z.tdiv 65536 = z / 65536 := Int.tdiv_eq_ediv_of_nonneg z0.1
  generalize ht : z / 65536 = t at a2
  have t0 : 0 ≤ t ∧ t < 65536 := by omega
  have a3 : t.tmod 10 = t % 10 := Int.tmod_eq_emod_of_nonneg t0.1
  obtain ⟨f, hf⟩ : ∃ f : Nat, t % 10 = (f : Int) := ⟨(t % 10).toNat, by omega⟩
  have f0 : f < 10 := by omega
  refine ⟨z, t, f, 48 + f, a1, z0.1, z0.2, a2, by rw [a3, hf], by omega, by omega, ?_, ?_, ?_⟩
  · clear a1 a2 a3 hz ht hf
    unfold wrap64; omega
  · clear a1 a2 a3 hz ht hf
    unfold wrap64; omega
  · omega
def LgI (w : World) (a b c d : Int) (k : Nat) (W : World) : Prop := ∃ S0 S1 : ByteArray, Below w.heap.size w W ∧ Row W w.heap.size 24 #[.int .i64 a, .int .i64 b, .int .i64 c, .int .i64 d] ∧ RAny W (w.heap.size + 1) ∧ Row W (w.heap.size + 1 + 1) 64 #[.string S0, .string S1] ∧ (1 ≤ k → Num100 S0) ∧ (2 ≤ k → Num100 S1)
theorem LgI.step {w W W' : World} {a b c d : Int} {k : Nat} (h : LgI w a b c d k W) (hb : Below W.heap.size W W') : LgI w a b c d k W' := by
  obtain ⟨S0, S1, h1, h2, h3, h4, h5⟩ := h
  exact ⟨S0, S1, below_step h1 hb, Row.over h2 hb, h3.over hb, Row.over h4 hb, h5⟩
theorem LgI.put0 {w W : World} {a b c d : Int} {T : ByteArray} (h : LgI w a b c d 0 W) (hT : Num100 T) : LgI w a b c d 1 (W.setCell ⟨w.heap.size + 1 + 1, 0, none⟩ (.string T)) := by
  obtain ⟨S0, S1, h1, h2, ⟨x, y, h3⟩, h4, h5, h6⟩ := h
  exact ⟨T, S1, h1.setCell (p := ⟨w.heap.size + 1 + 1, 0, none⟩) (by show w.heap.size ≤ w.heap.size + 1 + 1; omega) _, h2.aside (p := ⟨w.heap.size + 1 + 1, 0, none⟩) (by show w.heap.size + 1 + 1 ≠ w.heap.size; omega) _, ⟨x, y, Row.aside h3 (p := ⟨w.heap.size + 1 + 1, 0, none⟩) (by show w.heap.size + 1 + 1 ≠ w.heap.size + 1; omega) _⟩, h4.stored 0 (.string T), fun _ => hT, fun h => by omega⟩
theorem LgI.put1 {w W : World} {a b c d : Int} {T : ByteArray} (h : LgI w a b c d 1 W) (hT : Num100 T) : LgI w a b c d 2 (W.setCell ⟨w.heap.size + 1 + 1, 1, none⟩ (.string T)) := by
  obtain ⟨S0, S1, h1, h2, ⟨x, y, h3⟩, h4, h5, h6⟩ := h
  exact ⟨S0, T, h1.setCell (p := ⟨w.heap.size + 1 + 1, 1, none⟩) (by show w.heap.size ≤ w.heap.size + 1 + 1; omega) _, h2.aside (p := ⟨w.heap.size + 1 + 1, 1, none⟩) (by show w.heap.size + 1 + 1 ≠ w.heap.size; omega) _, ⟨x, y, Row.aside h3 (p := ⟨w.heap.size + 1 + 1, 1, none⟩) (by show w.heap.size + 1 + 1 ≠ w.heap.size + 1; omega) _⟩, h4.stored 1 (.string T), fun _ => h5 (by omega), fun _ => hT⟩
theorem LgI.outs {w W : World} {a b c d : Int} {k : Nat} (h : LgI w a b c d k W) : ∃ S0 S1 : ByteArray, W.cell? ⟨w.heap.size + 1 + 1, 0, none⟩ = some (.string S0) ∧ W.cell? ⟨w.heap.size + 1 + 1, 1, none⟩ = some (.string S1) ∧ W.frozen? ⟨w.heap.size + 1 + 1, 0, none⟩ = false ∧ W.frozen? ⟨w.heap.size + 1 + 1, 1, none⟩ = false ∧ (1 ≤ k → Num100 S0) ∧ (2 ≤ k → Num100 S1) := by
  obtain ⟨S0, S1, h1, h2, h3, h4, h5⟩ := h
  obtain ⟨k0, k1, f0, f1⟩ := two_cells h4
  exact ⟨S0, S1, k0, k1, f0, f1, h5⟩
theorem dig_more {S D : ByteArray} {g : Nat} (hS : S.data.toList.all dig = true) (hD : D = ⟨#[UInt8.ofNat g]⟩) (h1 : 48 ≤ g) (h2 : g ≤ 57) : (S ++ D).data.toList.all dig = true := by
  subst hD
  have hu : (UInt8.ofNat g).toNat = g := by rw [UInt8.toNat_ofNat']; omega
  rw [ByteArray.data_append, Array.toList_append, List.all_append, hS]
  simp [dig, hu, h1, h2]
theorem cut_one {T : ByteArray} (h : 1 < T.size) : (T.extract 1 T.size).size = T.size - 1 := by rw [ByteArray.size_extract]; omega
theorem cut_digs {T : ByteArray} (hd : T.data.toList.all dig = true) : (T.extract 1 T.size).data.toList.all dig = true := by
  rw [extract_drop]
  rw [List.all_eq_true] at hd ⊢
  exact fun x hx => hd x (List.mem_of_mem_drop hx)
theorem head_not {T : ByteArray} (h0 : 0 < T.size) {X : Int} (hX : ((T[0].toNat : Nat) : Int) = X) (h : X ≠ 48) : T.data.toList.head? ≠ some 48 := by
  intro he
  have hl : 0 < T.data.toList.length := by rw [Array.length_toList]; exact h0
  rw [List.head?_eq_getElem?, List.getElem?_eq_getElem hl] at he
  have h1 : T.data.toList[0] = 48 := by simpa using he
  have h2 : T[0] = T.data.toList[0] := rfl
  apply h
  rw [← hX, h2, h1]; rfl
theorem RAny.set {W : World} {g g' : Nat} (h : RAny W g) (hg : g' ≠ g) (i : Nat) (v : Value) : RAny (W.setCell ⟨g', i, none⟩ v) g := by
  obtain ⟨x, y, h⟩ := h
  exact ⟨x, y, Row.aside h (p := ⟨g', i, none⟩) hg v⟩
theorem Below.set {w W : World} (h : Below w.heap.size w W) {g : Nat} (hg : w.heap.size ≤ g) (i : Nat) (v : Value) : Below w.heap.size w (W.setCell ⟨g, i, none⟩ v) := h.setCell (p := ⟨g, i, none⟩) hg v
theorem dec_minus {z : Nat} (h : z ≠ 0) : (⟨#[45]⟩ : ByteArray) ++ dec (z : Int) = dec (-(z : Int)) := by
  have e : Lib.itoa (-(z : Int)) = 45 :: Lib.decDigits z := by
    rw [Lib.itoa, if_pos (by omega)]
    congr 2
    omega
  have e2 : Lib.itoa (z : Int) = Lib.decDigits z := by
    rw [Lib.itoa, if_neg (by omega)]
    rfl
  unfold dec
  rw [e, e2]
  apply ByteArray.ext
  rw [ByteArray.data_append]
  show #[45] ++ (Lib.decDigits z).toArray = (45 :: Lib.decDigits z).toArray
  simp
theorem fits_hund {z : Int} (h : z.natAbs < 10 ^ 100) : fits z = true := fits_small (Nat.lt_of_lt_of_le h (Nat.pow_le_pow_right (by decide) (by decide)))
theorem num_ne {z : Nat} (h : z ≠ 0) : ¬ dec (z : Int) = ⟨#[48]⟩ := by rw [l0]; intro e; have := dec_inj e; omega
theorem hund_size {z : Int} (h : z.natAbs < 10 ^ 100) : (dec z).size ≤ 201 := valid_size (by rw [valid_dec, fits_hund h])
theorem four_cells {w : World} {g : Nat} {t : TypeId} {a b c d : Value} (h : Row w g t #[a, b, c, d]) : w.cell? ⟨g, 0, none⟩ = some a ∧ w.cell? ⟨g, 1, none⟩ = some b ∧ w.cell? ⟨g, 2, none⟩ = some c ∧ w.cell? ⟨g, 3, none⟩ = some d := ⟨h.at rfl, h.at rfl, h.at rfl, h.at rfl⟩
set_option maxRecDepth 100000 in
set_option maxHeartbeats 8000000 in
theorem long_go (a b c d : Int) (ha : -9223372036854775808 ≤ a ∧ a ≤ 9223372036854775807) (hb : -9223372036854775808 ≤ b ∧ b ≤ 9223372036854775807) (hc : -9223372036854775808 ≤ c ∧ c ≤ 9223372036854775807) (hd : -9223372036854775808 ≤ d ∧ d ≤ 9223372036854775807) (w : World) :
    Calls Tryz.prog 13 #[.agg #[.int .i64 a, .int .i64 b, .int .i64 c, .int .i64 d]] w fun e w' => ∃ q : Rat, e = .returned (qv (some q)) ∧ q.num.natAbs < 10 ^ 100 ∧ q.den < 10 ^ 100 ∧ Below w.heap.size w w' := by
  have P : ∀ x n : Int, 0 < n → n ≤ 1000000007 → -9223372036854775808 ≤ x ∧ x ≤ 9223372036854775807 → ∃ p : Int, 0 ≤ p ∧ p < n ∧ ∀ W, Calls Tryz.prog 46 #[.int .i64 x, .int .i64 n] W fun e w' => e = .returned (.int .i64 p) ∧ w' = W :=
    fun x n hn _ hx => ⟨pkI x n, pkI_lo hn, pkI_hi hn, fun W => rpick_of x n hn hx.1 hx.2 W⟩
  obtain ⟨n0, n00, n01, cn0⟩ := P b 100 (by decide) (by decide) hb
  obtain ⟨n1, n10, n11, cn1⟩ := P d 100 (by decide) (by decide) hd
  obtain ⟨s0, s00, s01, cs0⟩ := P a 1000000007 (by decide) (by decide) ha
  obtain ⟨s1, s10, s11, cs1⟩ := P c 1000000007 (by decide) (by decide) hc
  obtain ⟨g0, g00, g01, cg0⟩ := P a 2 (by decide) (by decide) ha
  have CN0 := Lib.hid cn0; have CN1 := Lib.hid cn1; have CS0 := Lib.hid cs0; have CS1 := Lib.hid cs1; have CG0 := Lib.hid cg0
  clear P cn0 cn1 cs0 cs1 cg0 ha hb hc hd
  have h0 : LgI w a b c d 0 (((w.alloc (.cells #[.int .i64 a, .int .i64 b, .int .i64 c, .int .i64 d] 24)).alloc (.cells #[.string ⟨#[]⟩, .string ⟨#[]⟩] 23)).alloc (.cells #[.string ⟨#[]⟩, .string ⟨#[]⟩] 64)) :=
    ⟨_, _, keep_alloc (keep_alloc (below_alloc w _) _) _, ((Row.made w _ _).later _).later _, ⟨_, _, (Row.made_at _ _ _ (by simp)).later _⟩, Row.made_at _ _ _ (by simp), fun h => by omega, fun h => by omega⟩
  have H0 := Lib.hid h0
  clear h0
  go_enter Tryz.func13, Tryz.ntmps13
  go_wp2
  go_loopg [4] 2 (fun kx s4 wr => ∃ k : Nat, s4 = .int .i64 (k : Int) ∧ k + kx = 2 ∧ Hid (LgI w a b c d k wr))
  case atStart => exact ⟨0, rfl, rfl, H0⟩
  case round =>
    obtain ⟨k, rfl, hk, HL⟩ := hrel
    clear H0
    obtain ⟨S0, S1, hb, hr, hra, ho, hs0, hs1⟩ := HL.out
    obtain ⟨x0, x1, x2, x3⟩ := four_cells hr
    match k, hk with
    | 0, hk =>
      have n2 : IntKind.i64.wrap (1 + n0) = 1 + n0 := IntWalk.i64_in _ (by omega)
      have HB := Lib.hid hb; have HR := Lib.hid hr; have HA := Lib.hid hra; have HO := Lib.hid ho
      have HI : Hid (LgI w a b c d 0 wr) := Lib.hid HL.out
      clear hb hr hra ho hs0 hs1 HL
      go_wp2_with (first
        | (go_at_call 46; ((with_reducible refine (CN0.out _).mono ?_); rintro e wx ⟨rfl, hwx⟩; have hwx := hwx.symm; subst hwx))
        | (go_at_call 46; ((with_reducible refine (CS0.out _).mono ?_); rintro e wx ⟨rfl, hwx⟩; have hwx := hwx.symm; subst hwx))
        | fail)
      obtain ⟨M, hM⟩ : ∃ M : Nat, 1 + n0 = (M : Int) := ⟨(1 + n0).toNat, by omega⟩
      have hM1 : 1 ≤ M := by omega
      have hM2 : M ≤ 100 := by omega
      rw [hM]
      clear HB HR HA HO
      go_loopg [6, 7] M (fun kx s6 s7 wr => ∃ (S : ByteArray) (e : Int), s6 = .string S ∧ s7 = .int .i64 e ∧ S.size + kx = M ∧ 0 ≤ e ∧ e < 2147483647 ∧ Hid (S.data.toList.all dig = true) ∧ Hid (LgI w a b c d 0 wr))
      case atStart => exact ⟨_, _, rfl, rfl, by show 0 + M = M; omega, by omega, by omega, Lib.hid rfl, HI⟩
      case round =>
        obtain ⟨S, e, rfl, rfl, hk2, he0, he1, HD, HJ⟩ := hrel
        clear HI
        by_cases hlt : S.size < M
        · have hlt2 : (S.size : Int) < (M : Int) := by omega
          have v1 : IntKind.i64.wrap (e * 48271) = e * 48271 := IntWalk.i64_in _ (by omega)
          have v2 : IntKind.i64.wrap (e * 48271 + 11) = e * 48271 + 11 := IntWalk.i64_in _ (by omega)
          have hS3 : S.size ≤ 100 := by omega
          have hk3 : S.size + 1 + (M - (S.size + 1)) = M := by omega
          have hk4 : M - (S.size + 1) < M - S.size := by omega
          have HK := Lib.hid (And.intro hk3 hk4)
          clear hk3 hk4
          obtain ⟨e2, t, f, g, he2', he0', he1', ht', hf, hg1, hg2, v3, v4, v5⟩ := lcg e he0 he1
          have hcv := one_conv wr g (Nat.lt_of_le_of_lt hg2 (by decide))
          obtain ⟨D, hD⟩ : ∃ D : ByteArray, D = ⟨#[UInt8.ofNat g]⟩ := ⟨_, rfl⟩
          rw [← hD] at hcv
          obtain ⟨S2, hS2⟩ : ∃ S2, S ++ D = S2 := ⟨_, rfl⟩
          have hS4 : D.size = 1 := by rw [hD]; rfl
          have HS := Lib.hid hS2; have HDD := Lib.hid hD; have HG := Lib.hid (And.intro hg1 hg2); have HN := Lib.hid (And.intro he0' he1')
          clear hD hg1 hg2 he1' he0 he1 hM
          go_wp2_with fail
          clear he2' ht' hf v1 v2 v3 v4 v5 hcv
          go_roundg (M - (S.size + 1))
          case measure => clear HK HS HDD HG HN HD HJ hS2; omega
          case rel => exact ⟨S2, e2, rfl, rfl, by rw [← HS.out, ByteArray.size_append, hS4]; exact HK.out.1, HN.out.1, HN.out.2, Lib.hid (by rw [← HS.out]; exact dig_more HD.out HDD.out HG.out.1 HG.out.2), Lib.hid (HJ.out.step (below_alloc _ _))⟩
        · have hSM : S.size = M := by omega
          have h1S : 1 ≤ S.size := by omega
          have h2S : S.size ≤ 100 := by omega
          clear he0 he1 hk2 hM hM1 hM2
          go_wp2_with fail
          go_loopg [6] (S.size) (fun kx s6 wr => ∃ T : ByteArray, s6 = .string T ∧ T.size = kx ∧ 1 ≤ T.size ∧ T.size ≤ 100 ∧ Hid (T.data.toList.all dig = true) ∧ Hid (LgI w a b c d 0 wr))
          case atStart => exact ⟨_, rfl, rfl, h1S, h2S, HD, HJ⟩
          case round =>
            obtain ⟨T, rfl, hT0, hT1, hT2, HD2, HJ2⟩ := hrel
            have HT0 := Lib.hid hT0
            clear HD HJ hT0
            have h0 : 0 < T.size := hT1
            obtain ⟨X, hX⟩ : ∃ X, ((T[0].toNat : Nat) : Int) = X := ⟨_, rfl⟩
            obtain ⟨S0, S1, y0, y1, f0, f1, _, _⟩ := HJ2.out.outs
            by_cases hc : 1 < T.size
            · have i1 : (1 : Int) < (T.size : Int) := by omega
              have i2 : (1 : Int) ≤ (T.size : Int) := by omega
              by_cases h48 : X = 48
              · have hX2 : (X == 48) = true := by rw [h48]; rfl
                obtain ⟨T2, hT⟩ : ∃ T2, T.extract 1 T.size = T2 := ⟨_, rfl⟩
                have HT := Lib.hid hT
                have HX := Lib.hid hX
                clear h48
                go_wp2_with fail
                go_roundg (T.size - 1)
                case measure => have := HT0.out; omega
                case rel => exact ⟨T2, rfl, by rw [← HT.out, cut_one hc], by rw [← HT.out, cut_one hc]; omega, by rw [← HT.out, cut_one hc]; omega, Lib.hid (by rw [← HT.out]; exact cut_digs HD2.out), HJ2⟩
              · have hX2 : (X == 48) = false := by rw [beq_eq_false_iff_ne]; exact h48
                have HT := Lib.hid (digits_dec HD2.out h0 hT2 (Or.inr (head_not h0 hX h48)))
                go_wp2_with fail
                go_roundg 1
                case measure => omega
                case rel => exact ⟨1, rfl, by omega, Lib.hid (LgI.put0 HJ2.out HT.out)⟩
            · have i1 : ¬ (1 : Int) < (T.size : Int) := by omega
              have HT := Lib.hid (digits_dec HD2.out h0 hT2 (Or.inl (by omega)))
              go_wp2_with fail
              go_roundg 1
              case measure => omega
              case rel => exact ⟨1, rfl, by omega, Lib.hid (LgI.put0 HJ2.out HT.out)⟩
    | 1, hk =>
      have n2 : IntKind.i64.wrap (1 + n1) = 1 + n1 := IntWalk.i64_in _ (by omega)
      have HB := Lib.hid hb; have HR := Lib.hid hr; have HA := Lib.hid hra; have HO := Lib.hid ho
      have HI : Hid (LgI w a b c d 1 wr) := Lib.hid HL.out
      clear hb hr hra ho hs0 hs1 HL
      go_wp2_with (first
        | (go_at_call 46; ((with_reducible refine (CN1.out _).mono ?_); rintro e wx ⟨rfl, hwx⟩; have hwx := hwx.symm; subst hwx))
        | (go_at_call 46; ((with_reducible refine (CS1.out _).mono ?_); rintro e wx ⟨rfl, hwx⟩; have hwx := hwx.symm; subst hwx))
        | fail)
      obtain ⟨M, hM⟩ : ∃ M : Nat, 1 + n1 = (M : Int) := ⟨(1 + n1).toNat, by omega⟩
      have hM1 : 1 ≤ M := by omega
      have hM2 : M ≤ 100 := by omega
      rw [hM]
      clear HB HR HA HO
      go_loopg [6, 7] M (fun kx s6 s7 wr => ∃ (S : ByteArray) (e : Int), s6 = .string S ∧ s7 = .int .i64 e ∧ S.size + kx = M ∧ 0 ≤ e ∧ e < 2147483647 ∧ Hid (S.data.toList.all dig = true) ∧ Hid (LgI w a b c d 1 wr))
      case atStart => exact ⟨_, _, rfl, rfl, by show 0 + M = M; omega, by omega, by omega, Lib.hid rfl, HI⟩
      case round =>
        obtain ⟨S, e, rfl, rfl, hk2, he0, he1, HD, HJ⟩ := hrel
        clear HI
        by_cases hlt : S.size < M
        · have hlt2 : (S.size : Int) < (M : Int) := by omega
          have v1 : IntKind.i64.wrap (e * 48271) = e * 48271 := IntWalk.i64_in _ (by omega)
          have v2 : IntKind.i64.wrap (e * 48271 + 11) = e * 48271 + 11 := IntWalk.i64_in _ (by omega)
          have hS3 : S.size ≤ 100 := by omega
          have hk3 : S.size + 1 + (M - (S.size + 1)) = M := by omega
          have hk4 : M - (S.size + 1) < M - S.size := by omega
          have HK := Lib.hid (And.intro hk3 hk4)
          clear hk3 hk4
          obtain ⟨e2, t, f, g, he2', he0', he1', ht', hf, hg1, hg2, v3, v4, v5⟩ := lcg e he0 he1
          have hcv := one_conv wr g (Nat.lt_of_le_of_lt hg2 (by decide))
          obtain ⟨D, hD⟩ : ∃ D : ByteArray, D = ⟨#[UInt8.ofNat g]⟩ := ⟨_, rfl⟩
          rw [← hD] at hcv
          obtain ⟨S2, hS2⟩ : ∃ S2, S ++ D = S2 := ⟨_, rfl⟩
          have hS4 : D.size = 1 := by rw [hD]; rfl
          have HS := Lib.hid hS2; have HDD := Lib.hid hD; have HG := Lib.hid (And.intro hg1 hg2); have HN := Lib.hid (And.intro he0' he1')
          clear hD hg1 hg2 he1' he0 he1 hM
          go_wp2_with fail
          clear he2' ht' hf v1 v2 v3 v4 v5 hcv
          go_roundg (M - (S.size + 1))
          case measure => clear HK HS HDD HG HN HD HJ hS2; omega
          case rel => exact ⟨S2, e2, rfl, rfl, by rw [← HS.out, ByteArray.size_append, hS4]; exact HK.out.1, HN.out.1, HN.out.2, Lib.hid (by rw [← HS.out]; exact dig_more HD.out HDD.out HG.out.1 HG.out.2), Lib.hid (HJ.out.step (below_alloc _ _))⟩
        · have hSM : S.size = M := by omega
          have h1S : 1 ≤ S.size := by omega
          have h2S : S.size ≤ 100 := by omega
          clear he0 he1 hk2 hM hM1 hM2
          go_wp2_with fail
          go_loopg [6] (S.size) (fun kx s6 wr => ∃ T : ByteArray, s6 = .string T ∧ T.size = kx ∧ 1 ≤ T.size ∧ T.size ≤ 100 ∧ Hid (T.data.toList.all dig = true) ∧ Hid (LgI w a b c d 1 wr))
          case atStart => exact ⟨_, rfl, rfl, h1S, h2S, HD, HJ⟩
          case round =>
            obtain ⟨T, rfl, hT0, hT1, hT2, HD2, HJ2⟩ := hrel
            have HT0 := Lib.hid hT0
            clear HD HJ hT0
            have h0 : 0 < T.size := hT1
            obtain ⟨X, hX⟩ : ∃ X, ((T[0].toNat : Nat) : Int) = X := ⟨_, rfl⟩
            obtain ⟨S0, S1, y0, y1, f0, f1, _, _⟩ := HJ2.out.outs
            by_cases hc : 1 < T.size
            · have i1 : (1 : Int) < (T.size : Int) := by omega
              have i2 : (1 : Int) ≤ (T.size : Int) := by omega
              by_cases h48 : X = 48
              · have hX2 : (X == 48) = true := by rw [h48]; rfl
                obtain ⟨T2, hT⟩ : ∃ T2, T.extract 1 T.size = T2 := ⟨_, rfl⟩
                have HT := Lib.hid hT
                have HX := Lib.hid hX
                clear h48
                go_wp2_with fail
                go_roundg (T.size - 1)
                case measure => have := HT0.out; omega
                case rel => exact ⟨T2, rfl, by rw [← HT.out, cut_one hc], by rw [← HT.out, cut_one hc]; omega, by rw [← HT.out, cut_one hc]; omega, Lib.hid (by rw [← HT.out]; exact cut_digs HD2.out), HJ2⟩
              · have hX2 : (X == 48) = false := by rw [beq_eq_false_iff_ne]; exact h48
                have HT := Lib.hid (digits_dec HD2.out h0 hT2 (Or.inr (head_not h0 hX h48)))
                go_wp2_with fail
                go_roundg 0
                case measure => omega
                case rel => exact ⟨2, rfl, by omega, Lib.hid (LgI.put1 HJ2.out HT.out)⟩
            · have i1 : ¬ (1 : Int) < (T.size : Int) := by omega
              have HT := Lib.hid (digits_dec HD2.out h0 hT2 (Or.inl (by omega)))
              go_wp2_with fail
              go_roundg 0
              case measure => omega
              case rel => exact ⟨2, rfl, by omega, Lib.hid (LgI.put1 HJ2.out HT.out)⟩
    | 2, hk =>
      clear hb hr hra ho hs0 hs1 S0 S1
      obtain ⟨S0, S1, y0, y1, f0, f1, hs0, hs1⟩ := HL.out.outs
      obtain ⟨z0, e0, l0'⟩ := hs0 (by decide)
      obtain ⟨z1, e1, l1'⟩ := hs1 (by decide)
      have hL2 := HL.out
      have HL3 := Lib.hid (show Below w.heap.size w wr ∧ RAny wr (w.heap.size + 1) ∧ (∃ A B : ByteArray, Row wr (w.heap.size + 1 + 1) 64 #[.string A, .string B]) by obtain ⟨A, B, h1, h2, h3, h4, _⟩ := hL2; exact ⟨h1, h3, A, B, h4⟩)
      clear hs0 hs1 hL2 HL
      -- the answer, whatever the signs
      have fin : ∀ (x y : Int), x.natAbs < 10 ^ 100 → y.natAbs < 10 ^ 100 → y ≠ 0 → (∀ W, Calls Tryz.prog 28 #[.string (dec x), .string (dec y)] W fun e w' => e = .returned (.tuple #[.agg #[.string (dec (Rat.divInt x y).num), .string (dec ((Rat.divInt x y).den : Int))], .int .i64 0]) ∧ Below W.heap.size W w') ∧ (Rat.divInt x y).num.natAbs < 10 ^ 100 ∧ (Rat.divInt x y).den < 10 ^ 100 :=
        fun x y hx hy h => ⟨fun W => rmake_go x y (fits_hund hx) (fits_hund hy) h W, num_lt hx, Nat.lt_of_le_of_lt (den_le h) hy⟩
      have y10 : ∃ y : Nat, y ≠ 0 ∧ y < 10 ^ 100 ∧ ((S1 = ⟨#[48]⟩ ∧ (⟨#[55]⟩ : ByteArray) = dec (y : Int)) ∨ (¬ S1 = ⟨#[48]⟩ ∧ S1 = dec (y : Int))) := by
        by_cases hz : z1 = 0
        · refine ⟨7, by decide, Nat.lt_of_lt_of_le (by decide : 7 < 10 ^ 1) (Nat.pow_le_pow_right (by decide) (by decide)), Or.inl ⟨by rw [e1, hz, l0]; rfl, ?_⟩⟩
          rw [dec_nat]; simp [Lib.decDigits, str]
        · exact ⟨z1, hz, l1', Or.inr ⟨by rw [e1]; exact num_ne hz, e1⟩⟩
      have x10 : ∃ x : Int, x.natAbs < 10 ^ 100 ∧ ((g0 = 0 ∧ ¬ S0 = ⟨#[48]⟩ ∧ (⟨#[45]⟩ : ByteArray) ++ S0 = dec x) ∨ (g0 = 0 ∧ S0 = ⟨#[48]⟩ ∧ S0 = dec x) ∨ (¬ g0 = 0 ∧ S0 = dec x)) := by
        by_cases hg : g0 = 0
        · by_cases hz : z0 = 0
          · exact ⟨z0, by omega, Or.inr (Or.inl ⟨hg, by rw [e0, hz, l0]; rfl, e0⟩)⟩
          · exact ⟨-z0, by omega, Or.inl ⟨hg, by rw [e0]; exact num_ne hz, by rw [e0]; exact dec_minus hz⟩⟩
        · exact ⟨z0, by omega, Or.inr (Or.inr ⟨hg, e0⟩)⟩
      have NE : w.heap.size + 1 + 1 ≠ w.heap.size + 1 := by omega
      have LE : w.heap.size ≤ w.heap.size + 1 + 1 := by omega
      have sz0 : S0.size ≤ 201 := by rw [e0]; exact hund_size (by omega)
      clear e0 e1 l0' l1'
      obtain ⟨y, hy0, hy1, hY⟩ := y10
      obtain ⟨x, hx1, hX⟩ := x10
      obtain ⟨cM, q1, q2⟩ := fin x y hx1 (by omega) (by omega)
      have HQ := Lib.hid (And.intro q1 q2)
      obtain ⟨Q, hQ⟩ : ∃ Q, Q = Rat.divInt x y := ⟨_, rfl⟩
      rw [← hQ] at cM HQ
      obtain ⟨N, hN⟩ : ∃ N, N = dec Q.num := ⟨_, rfl⟩
      obtain ⟨D, hD⟩ : ∃ D, D = dec (Q.den : Int) := ⟨_, rfl⟩
      obtain ⟨XX, hXX⟩ : ∃ XX, XX = dec x := ⟨_, rfl⟩
      obtain ⟨YY, hYY⟩ : ∃ YY, YY = dec (y : Int) := ⟨_, rfl⟩
      rw [← hN, ← hD, ← hXX, ← hYY] at cM
      rw [← hXX] at hX
      rw [← hYY] at hY
      have CM := Lib.hid cM; have HN := Lib.hid (And.intro hN hD)
      clear cM fin q1 q2 hQ hN hD hXX hYY hy0 hy1 hx1
      rcases hY with ⟨h1, h2⟩ | ⟨h1, h2⟩
      · subst h1
        rcases hX with ⟨h3, h4, h5⟩ | ⟨h3, h4, h5⟩ | ⟨h3, h5⟩
        · subst h3
          have n1 := ne_zero h4
          subst h2
          go_wp2_with (first
            | (go_at_call 46; ((with_reducible refine (CG0.out _).mono ?_); rintro e wx ⟨rfl, hwx⟩; have hwx := hwx.symm; subst hwx))
            | (go_at_call 28; ((with_reducible refine (CM.out _).mono ?_); rintro e y7 ⟨rfl, z7⟩; have R7 := RAny.over (RAny.over (by first | exact HL3.out.2.1 | exact HL3.out.2.1.set NE _ _ | exact (HL3.out.2.1.set NE _ _).set NE _ _) z7) (below_alloc y7 (.cells #[.string N, .string D] 23)); have B7 := below_step (by first | exact HL3.out.1 | exact Below.set HL3.out.1 LE _ _ | exact Below.set (Below.set HL3.out.1 LE _ _) LE _ _) z7; obtain ⟨q0, q1, q2, q3⟩ := R7.eqs))
            | fail)
          (try simp only [Exit.inBlock, Exit.then])
          refine bodyPost_ret (res_r rfl rfl (rat_put R7 _ _)) rfl ?_
          exact ⟨Q, by rw [HN.out.1, HN.out.2]; rfl, HQ.out.1, HQ.out.2, below_put (keep_alloc B7 _) (Nat.le_succ _) _ _⟩
        · subst h3
          subst h4
          subst h2
          subst h5
          go_wp2_with (first
            | (go_at_call 46; ((with_reducible refine (CG0.out _).mono ?_); rintro e wx ⟨rfl, hwx⟩; have hwx := hwx.symm; subst hwx))
            | (go_at_call 28; ((with_reducible refine (CM.out _).mono ?_); rintro e y7 ⟨rfl, z7⟩; have R7 := RAny.over (RAny.over (by first | exact HL3.out.2.1 | exact HL3.out.2.1.set NE _ _ | exact (HL3.out.2.1.set NE _ _).set NE _ _) z7) (below_alloc y7 (.cells #[.string N, .string D] 23)); have B7 := below_step (by first | exact HL3.out.1 | exact Below.set HL3.out.1 LE _ _ | exact Below.set (Below.set HL3.out.1 LE _ _) LE _ _) z7; obtain ⟨q0, q1, q2, q3⟩ := R7.eqs))
            | fail)
          (try simp only [Exit.inBlock, Exit.then])
          refine bodyPost_ret (res_r rfl rfl (rat_put R7 _ _)) rfl ?_
          exact ⟨Q, by rw [HN.out.1, HN.out.2]; rfl, HQ.out.1, HQ.out.2, below_put (keep_alloc B7 _) (Nat.le_succ _) _ _⟩
        · subst h2
          subst h5
          go_wp2_with (first
            | (go_at_call 46; ((with_reducible refine (CG0.out _).mono ?_); rintro e wx ⟨rfl, hwx⟩; have hwx := hwx.symm; subst hwx))
            | (go_at_call 28; ((with_reducible refine (CM.out _).mono ?_); rintro e y7 ⟨rfl, z7⟩; have R7 := RAny.over (RAny.over (by first | exact HL3.out.2.1 | exact HL3.out.2.1.set NE _ _ | exact (HL3.out.2.1.set NE _ _).set NE _ _) z7) (below_alloc y7 (.cells #[.string N, .string D] 23)); have B7 := below_step (by first | exact HL3.out.1 | exact Below.set HL3.out.1 LE _ _ | exact Below.set (Below.set HL3.out.1 LE _ _) LE _ _) z7; obtain ⟨q0, q1, q2, q3⟩ := R7.eqs))
            | fail)
          (try simp only [Exit.inBlock, Exit.then])
          refine bodyPost_ret (res_r rfl rfl (rat_put R7 _ _)) rfl ?_
          exact ⟨Q, by rw [HN.out.1, HN.out.2]; rfl, HQ.out.1, HQ.out.2, below_put (keep_alloc B7 _) (Nat.le_succ _) _ _⟩
      · have m1 := ne_zero h1
        subst h2
        rcases hX with ⟨h3, h4, h5⟩ | ⟨h3, h4, h5⟩ | ⟨h3, h5⟩
        · subst h3
          have n1 := ne_zero h4
          go_wp2_with (first
            | (go_at_call 46; ((with_reducible refine (CG0.out _).mono ?_); rintro e wx ⟨rfl, hwx⟩; have hwx := hwx.symm; subst hwx))
            | (go_at_call 28; ((with_reducible refine (CM.out _).mono ?_); rintro e y7 ⟨rfl, z7⟩; have R7 := RAny.over (RAny.over (by first | exact HL3.out.2.1 | exact HL3.out.2.1.set NE _ _ | exact (HL3.out.2.1.set NE _ _).set NE _ _) z7) (below_alloc y7 (.cells #[.string N, .string D] 23)); have B7 := below_step (by first | exact HL3.out.1 | exact Below.set HL3.out.1 LE _ _ | exact Below.set (Below.set HL3.out.1 LE _ _) LE _ _) z7; obtain ⟨q0, q1, q2, q3⟩ := R7.eqs))
            | fail)
          (try simp only [Exit.inBlock, Exit.then])
          refine bodyPost_ret (res_r rfl rfl (rat_put R7 _ _)) rfl ?_
          exact ⟨Q, by rw [HN.out.1, HN.out.2]; rfl, HQ.out.1, HQ.out.2, below_put (keep_alloc B7 _) (Nat.le_succ _) _ _⟩
        · subst h3
          subst h4
          subst h5
          go_wp2_with (first
            | (go_at_call 46; ((with_reducible refine (CG0.out _).mono ?_); rintro e wx ⟨rfl, hwx⟩; have hwx := hwx.symm; subst hwx))
            | (go_at_call 28; ((with_reducible refine (CM.out _).mono ?_); rintro e y7 ⟨rfl, z7⟩; have R7 := RAny.over (RAny.over (by first | exact HL3.out.2.1 | exact HL3.out.2.1.set NE _ _ | exact (HL3.out.2.1.set NE _ _).set NE _ _) z7) (below_alloc y7 (.cells #[.string N, .string D] 23)); have B7 := below_step (by first | exact HL3.out.1 | exact Below.set HL3.out.1 LE _ _ | exact Below.set (Below.set HL3.out.1 LE _ _) LE _ _) z7; obtain ⟨q0, q1, q2, q3⟩ := R7.eqs))
            | fail)
          (try simp only [Exit.inBlock, Exit.then])
          refine bodyPost_ret (res_r rfl rfl (rat_put R7 _ _)) rfl ?_
          exact ⟨Q, by rw [HN.out.1, HN.out.2]; rfl, HQ.out.1, HQ.out.2, below_put (keep_alloc B7 _) (Nat.le_succ _) _ _⟩
        · subst h5
          go_wp2_with (first
            | (go_at_call 46; ((with_reducible refine (CG0.out _).mono ?_); rintro e wx ⟨rfl, hwx⟩; have hwx := hwx.symm; subst hwx))
            | (go_at_call 28; ((with_reducible refine (CM.out _).mono ?_); rintro e y7 ⟨rfl, z7⟩; have R7 := RAny.over (RAny.over (by first | exact HL3.out.2.1 | exact HL3.out.2.1.set NE _ _ | exact (HL3.out.2.1.set NE _ _).set NE _ _) z7) (below_alloc y7 (.cells #[.string N, .string D] 23)); have B7 := below_step (by first | exact HL3.out.1 | exact Below.set HL3.out.1 LE _ _ | exact Below.set (Below.set HL3.out.1 LE _ _) LE _ _) z7; obtain ⟨q0, q1, q2, q3⟩ := R7.eqs))
            | fail)
          (try simp only [Exit.inBlock, Exit.then])
          refine bodyPost_ret (res_r rfl rfl (rat_put R7 _ _)) rfl ?_
          exact ⟨Q, by rw [HN.out.1, HN.out.2]; rfl, HQ.out.1, HQ.out.2, below_put (keep_alloc B7 _) (Nat.le_succ _) _ _⟩
    | k + 3, hk => exact absurd hk (by omega)
end Go.Proofs.YtgpncnnlhhmjaaaGreatDoor
