/- DigestProofAccepted. -/
import Derived.Test.YtjcamhekhfokhaaDoorExtAcc
import Derived.Test.YtjcamhekhfokhaaDoorWayM
namespace Go.Proofs.YtjcamhekhfokhaaDoor
open Go.RowKit

theorem get_in {l : List ByteArray} {j : Nat} (h : j < l.length) : l[j]? = some l[j] := List.getElem?_eq_getElem h
theorem verify_len {rt rt' : ByteArray} {n i : Int} {s s' : ByteArray} {p p' : List ByteArray} (h : verifyB rt n i s p = true) (h' : verifyB rt' n i s' p' = true) : p.length = p'.length := by
  rw [verifyB] at h h'
  split at h
  · rename_i hc
    split at h'
    · have a : (valueR s p.reverse n.toNat i.toNat).2 = true := by have := (Bool.and_eq_true _ _ ▸ h); exact this.1
      have b : (valueR s' p'.reverse n.toNat i.toNat).2 = true := by have := (Bool.and_eq_true _ _ ▸ h'); exact this.1
      have := value_len s s' _ _ _ _ a b
      simpa using this
    · simp at h'
  · simp at h
theorem proof_more (l : List ByteArray) (i : Nat) (s : ByteArray) (hi : l[i]? = some s) (p : List ByteArray) (hp : p.length ≠ (proof l i).length) : verifyB (root l) l.length i s p = false := by
  cases h : verifyB (root l) l.length i s p with
  | false => rfl
  | true => exact absurd (verify_len h (proof_ok l i s hi)) hp
theorem ver_outB (rt : ByteArray) (n i : Int) (s : ByteArray) (p : List ByteArray) (h : ¬ (0 ≤ i ∧ i < n)) : verifyB rt n i s p = false := by rw [verifyB, if_neg (fun q => h ⟨q.1, q.2.1⟩)]
theorem proofE_in (l : List ByteArray) (i : Nat) (h : i < l.length) : proofE l (i : Int) = (proof l i, 0) := by rw [proofE, if_pos (by omega)]; simp
theorem proofE_out (l : List ByteArray) (i : Int) (h : ¬ (0 ≤ i ∧ i < l.length)) : proofE l i = ([], 2) := by rw [proofE, if_neg h]

theorem wp_append_strs {w : World} {o : Oper} {a : Act} {K : Act → World → Prop} {Q : Exit → Act → World → Prop} (s x : Operand)
    (ho : o.op = .call { callee := .builtin .append, args := #[s, x], argTypes := #[26, 26] })
    (base : Nat) (v : Value) (n : Nat) (l : List ByteArray) (hs : a.eval s = v) (hown : w.ownsRow base 9 1 v n (l.map Value.string))
    (A : Option Addr) (m c : Nat) (news : List ByteArray) (hx : a.eval x = .slice A m c) (hm : m = news.length) (hN : Strs w w.heap.size A news) (hnm : n + m ≤ 1000) (hbase : base ≤ w.heap.size)
    (h : ∀ v' w', w'.ownsRow base 9 1 v' (n + m) ((l ++ news).map Value.string) → w.grownBy w' v.ownBlock → K (a.put o.dst v') w') : o.wp Tryd.prog a w K Q := by
  obtain ⟨i0, hi0, hz0, hz1, hz2⟩ := info_parts string_info
  match A, hx, hN with
  | none, hx, hN =>
    obtain rfl : news = [] := by
      rcases hN with h | ⟨b, o, h, _⟩
      · exact h
      · cases h
    obtain rfl : m = 0 := hm
    have hr := run_append_none w base 26 o.type 9 i0 1 c Tryd.underlying26 hi0 v n _ hown
    unfold Oper.wp execOp
    simp only [ho, resolve, invoke, builtin, Sem.run_bind, Sem.run_pure, Result.andThen_ok, List.map_toArray, List.map_cons, List.map_nil, hs, hx, hr]
    exact h v w (by simpa using hown) ⟨rfl, rfl, rfl, Nat.le_refl _, fun _ _ _ => rfl⟩
  | some ad, hx, hN =>
    refine wp_append_own _ s x 26 ho base 9 i0 _ 1 16 Tryd.underlying26 hi0 hz0 hz1 hz2 (by rfl) (by decide) v n _ hs hown ad m c (news.map Value.string) hx (by simp [hm]) ?_ ?_ (by unfold maxLen; omega) (by omega) hbase ?_
    · intro j u hj
      rw [List.getElem?_map] at hj
      match hnj : news[j]?, hj with
      | some y, hj =>
        cases hj
        rcases hN with h | ⟨b, o, h, _, hc⟩
        · rw [h] at hnj; cases hnj
        · cases h
          by_cases hj0 : j = 0
          · subst hj0; simpa [Addr.add] using hc 0 y hnj
          · simpa [Addr.add, hj0] using hc j y hnj
    · intro u hu
      obtain ⟨y, _, rfl⟩ := List.mem_map.1 hu
      rfl
    · intro v' w' h1 h2 _
      exact h v' w' (by rw [List.map_append]; exact h1) h2
theorem step_append_strs {w : World} {ops : Array Oper} {o : Oper} {a : Act} {K : Act → World → Prop} {Q : Exit → Act → World → Prop} {E : Prop} (hgd : o.guard = none) (s x : Operand)
    (ho : o.op = .call { callee := .builtin .append, args := #[s, x], argTypes := #[26, 26] })
    (base : Nat) (v : Value) (n : Nat) (l : List ByteArray) (hs : a.eval s = v) (hown : w.ownsRow base 9 1 v n (l.map Value.string))
    (A : Option Addr) (m c : Nat) (news : List ByteArray) (hx : a.eval x = .slice A m c) (hm : m = news.length) (hN : Strs w w.heap.size A news) (hnm : n + m ≤ 1000) (hbase : base ≤ w.heap.size)
    (h : ∀ v' w', w'.ownsRow base 9 1 v' (n + m) ((l ++ news).map Value.string) → w.grownBy w' v.ownBlock → K (a.put o.dst v') w') :
    if Region.wanted o (yielded ops a.tmps) = true then Oper.wp Tryd.prog o a w K Q else E := by
  have hw : Region.wanted o (yielded ops a.tmps) = true := by simp [Region.wanted, hgd]
  rw [if_pos hw]
  exact wp_append_strs s x ho base v n l hs hown A m c news hx hm hN hnm hbase h

theorem own_e (w : World) (B : Nat) (hB : B ≤ w.heap.size) : (w.alloc (.cells #[] 9)).ownsRow B 9 1 (.slice (some ⟨w.heap.size, 0, none⟩) 0 0) 0 (([] : List ByteArray).map Value.string) := own_less (own_new w #[] 0 rfl (by decide)) hB
theorem own_e2 (w : World) (B : Nat) (hB : B ≤ w.heap.size) (a : ByteArray) : ((w.alloc (.cells #[.string a] 9)).alloc (.cells #[] 9)).ownsRow B 9 1 (.slice (some ⟨w.heap.size + 1, 0, none⟩) 0 0) 0 (([] : List ByteArray).map Value.string) := by
  have h := own_e (w.alloc (.cells #[.string a] 9)) B (Nat.le_trans hB (below_alloc w _).size)
  rw [show (w.alloc (.cells #[.string a] 9)).heap.size = w.heap.size + 1 by simp] at h
  exact h
theorem row_e2 (w : World) (a : ByteArray) : Row ((w.alloc (.cells #[] 9)).alloc (.cells #[.string a] 9)) (w.heap.size + 1) 9 #[.string a] := Row.made_at _ _ _ (by simp)
theorem strs_row {w : World} {g : Nat} {a : ByteArray} (h : Row w g 9 #[.string a]) : Strs w w.heap.size (some ⟨g, 0, none⟩) [a] := by
  refine .inr ⟨g, 0, rfl, h.inside, fun i s hi => ?_⟩
  rw [Nat.zero_add]
  refine h.at ?_
  match i, hi with
  | 0, hi => simpa using hi
  | i + 1, hi => simp at hi

set_option maxRecDepth 100000 in
set_option maxHeartbeats 4000000 in
theorem proofacc_walk (A : Option Addr) (c L : Nat) (xs : List ByteArray) (m : Int) (mlo : -9223372036854775808 ≤ m) (mhi : m ≤ 9223372036854775807) (w : World) (hL : L = xs.length) (hLm : L ≤ 9223372036854775807) (hS : Strs w w.heap.size A xs) (hz : ∀ s ∈ xs, s.size ≤ 9223372036854775807) (ht : Tab w) :
    Calls Tryd.prog 6 #[.slice A L c, .int .i64 m] w fun e w' => e = .returned (.bool true) ∧ Below w.heap.size w w' := by
  have HT := Lib.hid ht; have HS := Lib.hid hS; have HZ := Lib.hid hz; have HL := Lib.hid hL
  clear ht hS hz hL
  go_enter Tryd.func6, Tryd.ntmps6
  go_wp2_with fail
  refine (sane_any _ HT.out).mono ?_
  rintro e w1 ⟨rfl, b1⟩
  go_wp2_with fail
  refine (few_any A c L 40 xs _ HL.out hLm (by decide) ((HS.out.below b1).more b1.size) HZ.out).mono ?_
  rintro e w2 ⟨v2, rfl, o2, b2⟩
  have hll : (fewL 40 xs).length ≤ 40 := by rw [few_len]; omega
  have hlz : ∀ x ∈ fewL 40 xs, x.size ≤ 60 := few_size
  obtain ⟨l, hl⟩ : ∃ l, fewL 40 xs = l := ⟨_, rfl⟩
  rw [hl] at o2 hll hlz
  obtain ⟨n, hn⟩ : ∃ n, n = l.length := ⟨_, rfl⟩
  obtain ⟨A2, c2, rfl, s2, n2, m2⟩ := own_strs_n l hn o2
  have T2 := Lib.hid ((HT.out.below b1).below b2)
  have S2 := Lib.hid s2
  have q2 := below_step b1 b2
  have HN := Lib.hid hn
  have kn : n ≤ 40 := by omega
  have hz2 : ∀ x ∈ l, x.size ≤ 1000 := fun x hx => Nat.le_trans (hlz x hx) (by decide)
  obtain ⟨RL, hRL⟩ : ∃ R, R = root l := ⟨_, rfl⟩
  have kRL : RL.size = 32 := by rw [hRL]; exact root_size _
  have cRL := fun W (ht : Tab W) (hs : Strs W W.heap.size A2 l) => root_any A2 c2 n l W HN.out n2 m2 ht hs hz2
  rw [← hRL] at cRL
  have HRL := Lib.hid hRL
  clear o2 b1 b2 s2 HT HS HZ HL hl hn hlz hll hRL
  go_wp2_with fail
  refine (cRL _ T2.out S2.out).mono ?_
  rintro e w3 ⟨rfl, b3⟩
  have T3 := Lib.hid (T2.out.below b3)
  have S3 := Lib.hid ((S2.out.below b3).more b3.size)
  have q3 := below_step q2 b3
  clear b3 T2 S2 q2
  go_wp2_with fail
  go_loopw [7] (fun v wr => ∃ j : Nat, v = .int .i64 j ∧ j ≤ n ∧ Below w3.heap.size w3 wr) (fun v _ => n - (intOf v).toNat)
  case atStart => exact ⟨0, rfl, by omega, Below.refl _ _⟩
  case round =>
    obtain ⟨j, rfl, hj, hbr⟩ := hrel
    by_cases hjn : j < n
    · have hjl : j < l.length := by rw [← HN.out]; exact hjn
      obtain ⟨b, o, rfl, hB⟩ := strs_some S3.out (by intro e; rw [e] at hjl; simp at hjl)
      have hcell := strs_cell S3.out j _ (get_in hjl)
      have gx := get_in hjl
      have kx := hz2 _ (List.getElem_mem hjl)
      obtain ⟨X, hX⟩ : ∃ X, X = l[j] := ⟨_, rfl⟩
      rw [← hX] at hcell gx kx
      have hver := proof_ok l j X gx
      have hE := proofE_in l j hjl
      have hsh := proof_short l j
      have hdg := proof_dig l.length l j (Nat.le_refl _)
      obtain ⟨E, hEE⟩ : ∃ E, E = proof l j := ⟨_, rfl⟩
      rw [← hEE] at hver hE hsh hdg
      rw [← HN.out, ← HRL.out] at hver
      rw [← HN.out] at hsh
      have hEz : ∀ x ∈ E, x.size ≤ 1000 := fun x hx => by rw [hdg x hx]; decide
      obtain ⟨k5, hk5⟩ : ∃ k, k = E.length := ⟨_, rfl⟩
      obtain ⟨B, hB'⟩ : ∃ B, B = bitLen n := ⟨_, rfl⟩
      have hBn : B ≤ n := by rw [hB']; exact bitLen_le n
      have hcb := fun W => binary_any n (by omega) W
      rw [← hB'] at hcb hsh
      rw [← hk5] at hsh
      have HE := Lib.hid hE; have VE := Lib.hid hver; have HK5 := Lib.hid hk5
      have j1 : ¬ (B : Int) < (k5 : Int) := by omega
      have j2 : (j : Int) < (n : Int) := by omega
      have j0 : (0 : Int) ≤ (j : Int) := by omega
      have T4 := Lib.hid (T3.out.below hbr)
      have S4 := Lib.hid ((S3.out.below hbr).more hbr.size)
      have c4 := (hbr.cell (p := ⟨b, o + j, none⟩) hB).trans hcell
      have B4 : b < wr.heap.size := Nat.lt_of_lt_of_le hB hbr.size
      clear hE hver hsh hk5 hB' hjl hEE hX gx hdg hcell
      go_wp2_with fail
      refine (proofE_any _ c2 n l j _ HN.out (by omega) n2 m2 T4.out S4.out hz2).mono ?_
      rw [HE.out]; rintro e w5 ⟨v5, rfl, o5, b5⟩
      obtain ⟨A5, c5, rfl, s5, n5, m5⟩ := own_strs_n E HK5.out o5
      have T5 := Lib.hid (T4.out.below b5)
      have c5' := (b5.cell (p := ⟨b, o + j, none⟩) B4).trans c4
      have E5 := Lib.hid s5
      have q5 := below_step hbr b5
      clear o5 b5 s5 T4 S4
      go_wp2_with fail
      refine (hcb _).mono ?_
      rintro e w6 ⟨rfl, rfl⟩
      go_wp2_with fail
      refine (verify_any RL n j (by omega) (by omega) (by omega) (by omega) X kx A5 c5 k5 E _ HK5.out n5 m5 T5.out E5.out hEz).mono ?_
      rw [VE.out]
      rintro e w8 ⟨rfl, b8⟩
      have q8 := below_step q5 b8
      clear b8 T5 E5 q5 c5' c4
      go_wp2
      exact ⟨⟨j + 1, by go_num, by omega, q8⟩, by simp only [intOf]; omega⟩
    · obtain rfl : j = n := by omega
      have j1 : ¬ (j : Int) < (j : Int) := by omega
      have T4 := Lib.hid (T3.out.below hbr)
      have S4 := Lib.hid ((S3.out.below hbr).more hbr.size)
      have q4 := below_step q3 hbr
      clear hbr hj hjn
      by_cases hin : 0 ≤ m ∧ m < (j : Int)
      · obtain ⟨i, rfl⟩ := Int.eq_ofNat_of_zero_le hin.1
        have hij : i < j := by omega
        have hil : i < l.length := by rw [← HN.out]; exact hij
        obtain ⟨b, o, rfl, hB⟩ := strs_some S4.out (by intro e; rw [e] at hil; simp at hil)
        have hcell := strs_cell S4.out i _ (get_in hil)
        have gx := get_in hil
        have kx := hz2 _ (List.getElem_mem hil)
        obtain ⟨X, hX⟩ : ∃ X, X = l[i] := ⟨_, rfl⟩
        rw [← hX] at hcell gx kx
        have hE := proofE_in l i hil
        have hdg := proof_dig l.length l i (Nat.le_refl _)
        have hsm := proof_small l i (by rw [← HN.out]; omega)
        have hlong := proof_more l i X gx (proof l i ++ [RL]) (by simp)
        have hshort : proof l i ≠ [] → verifyB (root l) l.length i X ((proof l i).drop 1) = false := fun h => proof_more l i X gx _ (by
          rw [List.length_drop]
          have : 0 < (proof l i).length := List.length_pos_iff.2 h
          omega)
        obtain ⟨E, hEE⟩ : ∃ E, E = proof l i := ⟨_, rfl⟩
        rw [← hEE] at hE hdg hlong hshort hsm
        rw [← HN.out, ← HRL.out] at hlong hshort
        have hEz : ∀ x ∈ E, x.size ≤ 1000 := fun x hx => by rw [hdg x hx]; decide
        have hLz : ∀ x ∈ E ++ [RL], x.size ≤ 1000 := by
          intro x hx
          rcases List.mem_append.1 hx with hx | hx
          · exact hEz x hx
          · simp at hx; subst hx; rw [kRL]; decide
        have hDz : ∀ x ∈ E.drop 1, x.size ≤ 1000 := fun x hx => hEz x (List.mem_of_mem_drop hx)
        obtain ⟨k5, hk5⟩ : ∃ k, k = E.length := ⟨_, rfl⟩
        have k10 : k5 ≤ 10 := by omega
        obtain ⟨k6, hk6⟩ : ∃ k, k = k5 + 1 := ⟨_, rfl⟩
        have hk6' : k6 = (E ++ [RL]).length := by rw [hk6, hk5]; simp
        have HE := Lib.hid hE; have HK5 := Lib.hid hk5; have HK6 := Lib.hid hk6; have HK6' := Lib.hid hk6'; have VL := Lib.hid hlong; have VS := Lib.hid hshort
        obtain ⟨i1, i2⟩ := hin
        have cV := fun (A6 : Option Addr) (c6 : Nat) (h6 : k6 ≤ c6) (h6' : c6 ≤ 9223372036854775807) W hW hS => verify_any RL j i (by omega) (by omega) (by omega) (by omega) X kx A6 c6 k6 (E ++ [RL]) W HK6'.out h6 h6' hW hS hLz
        rw [VL.out] at cV
        clear hE hX gx hdg hsm hlong hshort hEE hk5 hk6 hk6' hil
        go_wp2_with fail
        refine (proofE_any _ c2 j l i _ HN.out (by omega) n2 m2 T4.out S4.out hz2).mono ?_
        rw [HE.out]; rintro e w5 ⟨v5, rfl, o5, b5⟩
        obtain ⟨A5, c5, rfl, s5, n5, m5⟩ := own_strs_n E HK5.out o5
        have T5 := Lib.hid (T4.out.below b5)
        have c5' := (b5.cell (p := ⟨b, o + i, none⟩) hB).trans hcell
        have B5 : b < w5.heap.size := Nat.lt_of_lt_of_le hB b5.size
        have E5 := Lib.hid s5
        have q5 := below_step q4 b5
        have both : ∀ W, Below w5.heap.size w5 W → (Below w5.heap.size w5 W ∧ W.cell? ⟨b, o + i, none⟩ = some (.string X)) :=
          fun W h => ⟨h, (h.cell (p := ⟨b, o + i, none⟩) B5).trans c5'⟩
        have BOTH := Lib.hid both
        clear o5 b5 s5 T4 S4 both hcell q4
        go_wp2_with fail
        go_region_held3 (fun W => Below w5.heap.size w5 W ∧ W.cell? ⟨b, o + i, none⟩ = some (.string X))
          (first | assumption | exact BOTH.out _ (Below.refl _ _).drew | exact BOTH.out _ hb1 | exact BOTH.out _ hb2 | exact BOTH.out _ (below_step (And.left (by assumption)) (by assumption)) | exact BOTH.out _ (keep_alloc (And.left (by assumption)) _))
          (first
            | (refine step_append_strs rfl _ _ (by rfl) w5.heap.size _ k5 E (by rfl) o1 _ 1 1 [RL] (by rfl) rfl (strs_row r1) (by omega) (Below.size (And.left (by assumption))) ?_; intro v2 w2' o2 g2; have hb2 := keep_grown (And.left (by assumption)) g2 o1; obtain ⟨A6, c6, rfl, s6, n6, m6⟩ := own_strs_n (n := k6) (E ++ [RL]) HK6'.out (by rw [← HK6'.out, HK6.out]; exact o2); have S6 := Lib.hid s6; clear s6 o2 g2)
            | (refine step_append_strs rfl _ _ (by rfl) w5.heap.size _ 0 [] (by rfl) ((own_e w5.drew w5.heap.size (Nat.le_refl _)).alloc (.cells #[.string RL] 9)) A5 k5 c5 E (by rfl) HK5.out ((E5.out.below (And.left (by assumption))).more (Below.size (And.left (by assumption)))) (by omega) (Below.size (And.left (by assumption))) ?_; intro v1 w1' o1 g1; rw [Nat.zero_add, List.nil_append] at o1; have hb1 := keep_grown (And.left (by assumption)) g1 ((own_e w5.drew w5.heap.size (Nat.le_refl _)).alloc (.cells #[.string RL] 9)); have r1 := (row_e2 w5.drew RL).grown g1 (by simp [Value.ownBlock]))
            | (refine step_append_strs rfl _ _ (by rfl) w5.heap.size _ 0 [] (by rfl) (own_e2 w5.drew w5.heap.size (Nat.le_refl _) RL) A5 k5 c5 E (by rfl) HK5.out ((E5.out.below (And.left (by assumption))).more (Below.size (And.left (by assumption)))) (by omega) (Below.size (And.left (by assumption))) ?_; intro v1 w1' o1 g1; rw [Nat.zero_add, List.nil_append] at o1; have hb1 := keep_grown (And.left (by assumption)) g1 (own_e2 w5.drew w5.heap.size (Nat.le_refl _) RL); have r1 := ((Row.made w5.drew 9 #[.string RL]).later (.cells #[] 9)).grown g1 (by simp [Value.ownBlock]))
            | (refine step_append_strs rfl _ _ (by rfl) w5.heap.size _ 0 [] (by rfl) (own_e w5.drew w5.heap.size (Nat.le_refl _)) A5 k5 c5 E (by rfl) HK5.out ((E5.out.below (And.left (by assumption))).more (Below.size (And.left (by assumption)))) (by omega) (Below.size (And.left (by assumption))) ?_; intro v1 w1' o1 g1; rw [Nat.zero_add, List.nil_append] at o1; have hb1 := keep_grown (And.left (by assumption)) g1 (own_e w5.drew w5.heap.size (Nat.le_refl _)))
            | (go_at_call 29; ((with_reducible refine (cV A6 c6 n6 m6 _ (T5.out.below (And.left (by assumption))) S6.out).mono ?_); rintro e w4 ⟨rfl, b4⟩))
            | (refine step_append_strs rfl _ _ (by rfl) w5.heap.size _ k5 E (by rfl) (o1.alloc _) _ 1 1 [RL] (by rfl) rfl (strs_new1 _ RL) (by omega) (Below.size (And.left (by assumption))) ?_; intro v2 w2' o2 g2; have hb2 := keep_grown (And.left (by assumption)) g2 (o1.alloc _); obtain ⟨A6, c6, rfl, s6, n6, m6⟩ := own_strs_n (n := k6) (E ++ [RL]) HK6'.out (by rw [← HK6'.out, HK6.out]; exact o2); have S6 := Lib.hid s6; clear s6 o2 g2))
        all_goals
          have hb4 : Below w5.heap.size w5 w4 := And.left (by assumption)
          by_cases h5 : E = []
          · obtain rfl : k5 = 0 := by rw [HK5.out, h5]; rfl
            clear h5
            go_wp2
            go_quiet (fail)
            go_wp2
            go_ret
            exact ⟨rfl, below_step q5 (below_drawnN hb4 _)⟩
          · have k50 : 0 < k5 := by rw [HK5.out]; exact List.length_pos_iff.2 h5
            have vs := VS.out h5
            have g0 : (0 : Int) < (k5 : Int) := by omega
            have g1 : (1 : Int) ≤ (k5 : Int) := by omega
            have g2 : (k5 : Int) ≤ (c5 : Int) := by omega
            have g3 : (1 : Int) ≤ (c5 : Int) := by omega
            obtain ⟨b5', o5', rfl, B5'⟩ := strs_some E5.out h5
            have sE := E5.out
            by_cases hc1 : c5 = 1
            · obtain rfl : k5 = 1 := by omega
              subst hc1
              have hd0 : E.drop 1 = [] := List.eq_nil_of_length_eq_zero (by rw [List.length_drop, ← HK5.out])
              rw [hd0] at vs
              have cS := fun (A7 : Option Addr) W (hW : Tab W) => verify_any RL j i (by omega) (by omega) (by omega) (by omega) X kx A7 0 0 [] W rfl (by decide) (by decide) hW (.inl rfl) (by simp)
              rw [vs] at cS
              clear h5 vs sE hd0
              go_wp2
              go_region_held3 (fun W => Below w5.heap.size w5 W ∧ W.cell? ⟨b, o + i, none⟩ = some (.string X))
                (first | assumption | exact BOTH.out _ hb4.drew | exact BOTH.out _ (below_step (And.left (by assumption)) (by assumption)))
                (first
                  | (go_at_call 29; ((with_reducible refine (cS _ _ (T5.out.below (And.left (by assumption)))).mono ?_); rintro e w7 ⟨rfl, b7⟩))
                  | fail)
              go_wp2
              go_ret
              exact ⟨rfl, below_step q5 (And.left (by assumption))⟩
            · have sD := strs_drop B5' (strs_cell sE) 1
              have cS := fun W (hW : Tab W) (hS : Strs W W.heap.size (some ⟨b5', o5' + 1, none⟩) (E.drop 1)) => verify_any RL j i (by omega) (by omega) (by omega) (by omega) X kx (some ⟨b5', o5' + 1, none⟩) (c5 - 1) (k5 - 1) (E.drop 1) W (by rw [List.length_drop, ← HK5.out]) (by omega) (by omega) hW hS hDz
              rw [vs] at cS
              have SD := Lib.hid sD
              clear h5 vs sE sD
              go_wp2
              go_region_held3 (fun W => Below w5.heap.size w5 W ∧ W.cell? ⟨b, o + i, none⟩ = some (.string X))
                (first | assumption | exact BOTH.out _ hb4.drew | exact BOTH.out _ (below_step (And.left (by assumption)) (by assumption)))
                (first
                  | (go_at_call 29; ((with_reducible refine (cS _ (T5.out.below (And.left (by assumption))) ((SD.out.below (And.left (by assumption))).more (Below.size (And.left (by assumption))))).mono ?_); rintro e w7 ⟨rfl, b7⟩))
                  | fail)
              go_wp2
              go_ret
              exact ⟨rfl, below_step q5 (And.left (by assumption))⟩
      · have hE := proofE_out l m (by rw [← HN.out]; exact hin)
        have hV := ver_outB RL j m ⟨#[]⟩ [] hin
        have HE := Lib.hid hE; have HV := Lib.hid hV
        clear hE hV
        by_cases i1 : 0 ≤ m
        · have i2 : ¬ m < (j : Int) := fun h => hin ⟨i1, h⟩
          clear hin
          go_wp2_with fail
          refine (proofE_any A2 c2 j l m _ HN.out (by omega) n2 m2 T4.out S4.out hz2).mono ?_
          rw [HE.out]; rintro e w5 ⟨v5, rfl, o5, b5⟩
          obtain ⟨A5, c5, rfl, s5, n5, m5⟩ := own_strs_n [] (n := 0) rfl o5
          have T5 := Lib.hid (T4.out.below b5)
          have q5 := below_step q4 b5
          clear o5 b5 s5 T4 S4 q4
          go_wp2_with fail
          refine (verify_any RL j m (by omega) (by omega) mlo mhi ⟨#[]⟩ (by decide) none 0 0 [] _ rfl (by decide) (by decide) T5.out (.inl rfl) (by simp)).mono ?_
          rw [HV.out]
          rintro e w8 ⟨rfl, b8⟩
          go_wp2_with fail
          go_ret
          exact ⟨rfl, below_step q5 b8⟩
          all_goals (have hx : (!decide (m < (j : Int))) = false := by assumption
                     simp at hx; omega)
        · clear hin
          go_wp2_with fail
          refine (proofE_any A2 c2 j l m _ HN.out (by omega) n2 m2 T4.out S4.out hz2).mono ?_
          rw [HE.out]; rintro e w5 ⟨v5, rfl, o5, b5⟩
          obtain ⟨A5, c5, rfl, s5, n5, m5⟩ := own_strs_n [] (n := 0) rfl o5
          have T5 := Lib.hid (T4.out.below b5)
          have q5 := below_step q4 b5
          clear o5 b5 s5 T4 S4 q4
          go_wp2_with fail
          refine (verify_any RL j m (by omega) (by omega) mlo mhi ⟨#[]⟩ (by decide) none 0 0 [] _ rfl (by decide) (by decide) T5.out (.inl rfl) (by simp)).mono ?_
          rw [HV.out]
          rintro e w8 ⟨rfl, b8⟩
          go_wp2_with fail
          go_ret
          exact ⟨rfl, below_step q5 b8⟩
end Go.Proofs.YtjcamhekhfokhaaDoor
