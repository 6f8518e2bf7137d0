/- lengths: the tables of at most 0, 1, .. bounds, handed over one after the other. -/
import Derived.Test.YtkeimfkaoianmaaExt
import Derived.Test.YtkeimfkaoianmaaRng
import Derived.Sort.LoopGhostIn
import Derived.ControlIn
import Derived.Scope
namespace Go.Proofs.Ytkeimfkaoianmaa
open Go.RowKit Go.Shelf

/-- What a round keeps for lengths: what lay there when the loop began, but Own; rows below lo; the round's table. -/
def KeepL (n n₀ : Nat) (Own : Nat → Prop) (_k lo s : Nat) (X Y : World) : Prop :=
  X.heap.size ≤ Y.heap.size ∧ (∀ i, i < n₀ → i < X.heap.size → ¬ Own i → Y.heap[i]? = X.heap[i]?) ∧ (∀ i t C, n₀ ≤ i → i < lo → Row X i t C → Row Y i t C) ∧ ∀ f, Tbl X s n f → Tbl Y s n f
def GivesL (n : Nat) (bs : List Bn) (k lo z s : Nat) (X : World) : Prop := z ≤ s ∧ lo ≤ s ∧ Tbl X s n (tb bs k)
theorem Quiet1.row {B i : Nat} {X Y : World} {t : TypeId} {C : Array Value} (h : Quiet1 B X Y) (hr : Row X i t C) : Row Y i t C := by
  obtain ⟨row, hg, hq⟩ := h
  refine hr.grown hg (fun e => ?_)
  obtain ⟨_, o, ho, hc⟩ := hq i e.symm
  rw [show X.heap[i]? = _ from hr] at ho; cases ho; cases hc
theorem Quiet1.tbl {B s n : Nat} {X Y : World} {f : Int → Int → Int} (h : Quiet1 B X Y) (hr : Tbl X s n f) : Tbl Y s n f := ⟨h.row hr.out, fun u hu => h.row (hr.rows u hu)⟩
theorem Quiet1.same {B i : Nat} {X Y : World} (h : Quiet1 B X Y) (hi : i < B) (hX : i < X.heap.size) : Y.heap[i]? = X.heap[i]? := by
  obtain ⟨row, hg, hq⟩ := h
  exact hg.block i hX (fun e => by have := (hq i e.symm).1; omega)
theorem Quiet1.size {B : Nat} {X Y : World} (h : Quiet1 B X Y) : X.heap.size ≤ Y.heap.size := by obtain ⟨_, h, _⟩ := h; exact h.size
theorem Quiet1.below {B n₀ : Nat} {w X Y : World} (h : Quiet1 B X Y) (hb : Below n₀ w X) (hB : n₀ ≤ B) (hX : n₀ ≤ X.heap.size) : Below n₀ w Y := by
  obtain ⟨row, hg, hq⟩ := h
  exact hb.grown hg hX (fun k e => Nat.le_trans hB (hq k e).1)
theorem GivesL.quiet {n B k lo z s : Nat} {bs : List Bn} {X Y : World} (h : GivesL n bs k lo z s X) (q : Quiet1 B X Y) : GivesL n bs k lo z s Y := ⟨h.1, h.2.1, q.tbl h.2.2⟩
theorem KeepL.before {n n₀ k lo s : Nat} {Own : Nat → Prop} {X Y Z : World} (q : Quiet1 n₀ X Y) (h : KeepL n n₀ Own k lo s Y Z) : KeepL n n₀ Own k lo s X Z :=
  ⟨Nat.le_trans q.size h.1, fun i hi hx ho => (h.2.1 i hi (Nat.lt_of_lt_of_le hx q.size) ho).trans (q.same hi hx), fun i t C hi hl hr => h.2.2.1 i t C hi hl (q.row hr), fun f hf => h.2.2.2 f (q.tbl hf)⟩
theorem KeepL.behind {n n₀ k lo s : Nat} {Own : Nat → Prop} {X Y Z : World} (h : KeepL n n₀ Own k lo s X Y) (q : Quiet1 n₀ Y Z) : KeepL n n₀ Own k lo s X Z :=
  ⟨Nat.le_trans h.1 q.size, fun i hi hx ho => (q.same hi (Nat.lt_of_lt_of_le hx h.1)).trans (h.2.1 i hi hx ho), fun i t C hi hl hr => q.row (h.2.2.1 i t C hi hl hr), fun f hf => q.tbl (h.2.2.2 f hf)⟩

set_option maxRecDepth 100000 in
theorem lengths_any (N : Int) (A : Option Addr) (L c : Nat) (w : World) :
    Calls Try.prog 54 #[btw N A L c] w fun e w' => e = .returned (.func (.func 59) #[] #[.pointer (some ⟨w.heap.size, 0, none⟩)]) ∧ w' = w.alloc (.cells #[.int .i64 N, .slice A L c] 28) := by
  unfold btw
  go_enter Try.func54, Try.ntmps54
  go_wp2
  go_ret
  exact ⟨rfl, rfl⟩

theorem Mkr.keep {X Y : World} {b0 p q g n : Nat} (h : Mkr X b0 p q g n) (hp : b0 ≤ p ∧ b0 ≤ q ∧ b0 ≤ g) (hr : ∀ i t C, b0 ≤ i → i < X.heap.size → Row X i t C → Row Y i t C) : Mkr Y b0 p q g n := by
  obtain ⟨C, h1, h2, h3⟩ := h.z
  exact ⟨hr _ _ _ hp.1 h.p.inside h.p, hr _ _ _ hp.2.1 h.q.inside h.q, C, hr _ _ _ hp.2.2 h1.inside h1, h2, fun u hu => by obtain ⟨hb, b1, e, r⟩ := h3 u hu; exact ⟨hb, b1, e, hr _ _ _ b1 r.inside r⟩⟩
/-- The state of lengths between two rounds. -/
structure Lst (bs : List Bn) (n L c : Nat) (A : Option Addr) (Bn n₀ : Nat) (w1 : World) (J : Nat → Nat → Nat → World → Prop) (b0 k s z : Nat) (X : World) : Prop where
  zs : z ≤ s
  lo : w1.heap.size ≤ s
  tbl : Tbl X s n (tb bs k)
  j : J k w1.heap.size z X
  keep : ∀ i t C, b0 ≤ i → i < w1.heap.size → Row w1 i t C → Row X i t C
  box : Row X Bn 28 #[.int .i64 (n : Int), .slice A L c]
  rds : Rds X n₀ A bs
theorem rds_keep {X Y : World} {B : Nat} {A : Option Addr} {bs : List Bn} (h : Rds X B A bs) (hk : ∀ b o, A = some ⟨b, o, none⟩ → b < B → Y.heap[b]? = X.heap[b]?) : Rds Y B A bs := by
  rcases h with h | ⟨b, o, hA, hB, hc⟩
  · exact .inl h
  · exact .inr ⟨b, o, hA, hB, fun i r hr => by
      have e := hk b o hA hB
      have := hc i r hr
      rw [World.cell?_of_block (a := ⟨b, o + i * 3, none⟩) e, World.cell?_of_block (a := ⟨b, o + i * 3 + 1, none⟩) e, World.cell?_of_block (a := ⟨b, o + i * 3 + 2, none⟩) e]
      exact this⟩

theorem grown_refl (w : World) : w.grownBy w none := ⟨rfl, rfl, rfl, Nat.le_refl _, fun _ _ _ => rfl⟩
theorem row_ty {W : World} {g h : Nat} {t u : TypeId} {C D : Array Value} (a : Row W g t C) (b : Row W h u D) (hne : t ≠ u) : h ≠ g := by
  rintro rfl
  have e : some (Obj.cells C t (0, 0)) = some (Obj.cells D u (0, 0)) := (show W.heap[h]? = _ from a).symm.trans b
  injection e with e
  injection e with _ e _
  exact hne e
theorem Tbl.beside {W : World} {g s n : Nat} {t : TypeId} {C : Array Value} {f : Int → Int → Int} (h : Tbl W s n f) (hr : Row W g t C) (h1 : t ≠ 22) (h2 : t ≠ 3) (o : Nat) (v : Value) : Tbl (W.setCell ⟨g, o, none⟩ v) s n f :=
  ⟨h.out.aside (p := ⟨g, o, none⟩) (row_ty h.out hr h1.symm) v, fun u hu => (h.rows u hu).aside (p := ⟨g, o, none⟩) (row_ty (h.rows u hu) hr h2.symm) v⟩
section
attribute [local go_sem] Oper.semAt_some
set_option maxRecDepth 100000 in
set_option maxHeartbeats 4000000 in
theorem lengths_hands (m n : Nat) (bs : List Bn) (A : Option Addr) (c Bn : Nat) (Own : Nat → Prop) (hm : 2 ≤ m) (hn : n ≤ 16) (ho : Okb n bs) (hL : bs.length ≤ 60) (w : World) (hBn : Row w Bn 28 #[.int .i64 (n : Int), .slice A bs.length c]) (hO : ¬ Own Bn)
    (B : Nat) (hB0 : B ≤ w.heap.size) (hr : Rds w B A bs) (hOA : ∀ b, b < B → ¬ Own b) :
    Hands Fence.wide m Try.prog 59 #[.pointer (some ⟨Bn, 0, none⟩)] (fun s => #[tblV s n]) (n + 1) (GivesL n bs) (KeepL n w.heap.size Own) w := by
  intro l J Jx W hW hJ hJx hY h0
  obtain ⟨L, hLL⟩ : ∃ L, L = bs.length := ⟨_, rfl⟩
  rw [← hLL] at hBn hL
  have hBW : Row W Bn 28 #[.int .i64 (n : Int), .slice A L c] := hBn.grown hW (by simp)
  have hBin := hBn.inside
  have hWs := hW.size
  have hst : ∀ (w1 : World) (p q g : Nat), Row w1 p 3 #[.int .i64 (n : Int)] → Row w1 q 63 #[.slice (some ⟨g, 0, none⟩) n n] → Zer w1 W.heap.size g n n → (W.heap.size ≤ p ∧ W.heap.size ≤ q ∧ W.heap.size ≤ g) → Below W.heap.size W w1 →
      Mkr w1 W.heap.size p q g n ∧ Row w1 Bn 28 #[.int .i64 (n : Int), .slice A L c] ∧ Below W.heap.size W w1 := fun w1 p q g a b d _ hb => ⟨⟨a, b, d⟩, hBW.step hb, hb⟩
  obtain ⟨k0, k1, _, _⟩ := hBW.two
  have HST := Lib.hid hst; have HW := Lib.hid hW; have HBW := Lib.hid hBW; have HLL := Lib.hid hLL; have HO := Lib.hid ho; have HR := Lib.hid hr; have HOA := Lib.hid hOA; have HJ := Lib.hid hJ; have HJX := Lib.hid hJx; have HY := Lib.hid hY; have H0 := Lib.hid h0; have HOw := Lib.hid hO
  clear hst hW hBW hLL ho hr hOA hJ hJx hY h0 hO hBn
  refine callsIn_of_wp Try.func59 rfl trivial ?_ rfl
  simp only [Try.ntmps59, List.size_toArray, List.length_cons, List.length_nil, Nat.reduceAdd, Nat.reduceSub, Array.replicate_succ, Array.replicate_zero, List.push_toArray, List.append_toArray, List.nil_append, List.cons_append]
  gi_wp2_with (first
    | (refine ⟨trivial, fun _ => (by omega), ?_⟩; gi_at_call 60; refine (callsIn_wide.2 (emptyChains_any n hn _)).mono ?_; rintro e w1 ⟨p, q, g, rfl, hp, hq, hz, hlo, hb1⟩; obtain ⟨hm1, hB1, hb1'⟩ := HST.out w1 p q g hp hq hz hlo hb1; have HM1 := Lib.hid hm1; have HLO := Lib.hid hlo; have HB1 := Lib.hid hB1; have BB1 := Lib.hid hb1; clear hp hq hz hb1 hb1' hm1 hB1 hlo)
    | (refine ⟨trivial, fun _ => (by omega), ?_⟩; gi_at_call 67; refine (callsIn_wide.2 (empty_any _ _ _ _ _ hn _ HM1.out)).mono ?_; rintro e w2 ⟨rfl, ht2, hb2⟩; have HT2 := Lib.hid ht2; have HB2 := Lib.hid (HB1.out.step hb2); have BB2 := Lib.hid hb2; obtain ⟨m0, m1, _, _⟩ := HB2.out.two; clear ht2 hb2))
  unfold tblV
  have hb12 : Below W.heap.size W w2 := below_step BB1.out BB2.out
  have st : Lst bs n L c A Bn B w1 J W.heap.size 0 w1.heap.size W.heap.size w2 :=
    ⟨BB1.out.size, Nat.le_refl _, HT2.out, HJ.out _ _ _ _ _ (H0.out _) (grown_of_below hb12 (Nat.le_refl _)), fun i t C _ _ hr => hr.step BB2.out, HB2.out,
      rds_keep HR.out (fun b o _ hb => (hb12.block b (by omega)).trans (HW.out.block b (by omega) (by simp)))⟩
  have hs1 := BB1.out.size
  have ST := Lib.hid st; have MK := Lib.hid HM1.out
  clear hb12 st HB1 HB2 HT2 BB1 BB2 HM1 HBW HST
  gi_loopg [4, 5, 14] (n + 1) (fun g s4 s5 s14 wr => ∃ k s z : Nat, s14 = .int .i64 (k : Int) ∧ k + g = n + 1 ∧ s4 = .slice (some ⟨s, 0, none⟩) n n ∧ Lst bs n L c A Bn B w1 J W.heap.size k s z wr)
  case atStart => exact ⟨0, w1.heap.size, W.heap.size, rfl, by omega, rfl, ST.out⟩
  case round =>
    clear ST m0 m1
    obtain ⟨k, s, z, rfl, hk, rfl, S⟩ := hrel
    by_cases hlt : k < n + 1
    · obtain ⟨fn, tmps, assign, body, hy1, hR⟩ := HY.out k w1.heap.size z s wr hlt S.j ⟨S.zs, S.lo, S.tbl⟩
      unfold tblV at hy1
      obtain ⟨b0, b1, _, _⟩ := S.box.two
      have HS := Lib.hid S
      clear S
      gi_wp2
      refine ⟨fun _ => (by omega), ?_⟩
      refine hR.mono ?_
      clear hR
      rintro e Y (⟨rfl, hJ', hK⟩ | ⟨rfl, hjx⟩)
      · obtain ⟨sz, ks, kr, kt⟩ := hK
        have hin := HS.out.tbl.inside
        have hlo := HS.out.lo
        have hBn' : Row Y Bn 28 #[.int .i64 (n : Int), .slice A L c] := by
          have := ks Bn (by omega) HS.out.box.inside HOw.out
          exact this.trans HS.out.box
        have hrd : Rds Y B A bs := rds_keep HS.out.rds (fun b o _ hb => ks b (by omega) (by omega) (HOA.out b hb))
        have hkp : ∀ i t C, W.heap.size ≤ i → i < w1.heap.size → Row w1 i t C → Row Y i t C := fun i t C h1 h2 hr => kr i t C (by omega) h2 (HS.out.keep i t C h1 h2 hr)
        have hmk : Mkr Y W.heap.size p q g n := MK.out.keep HLO.out hkp
        have hT := kt _ HS.out.tbl
        have HJ' := Lib.hid hJ'; have HB := Lib.hid hBn'; have HRD := Lib.hid hrd; have HK := Lib.hid hkp; have HM := Lib.hid hmk; have HT := Lib.hid hT
        clear hJ' ks kr kt hBn' hrd hkp hmk hT HS b0 b1
        have hex := fun (s2 : Nat) (X : World) (h1 : s + n < s2) (h2 : Rds X s2 A bs) (h3 : Tbl X s n (tb bs k)) (h4 : Tbl X s2 n z0) => extend_any n bs A c s s2 (tb bs k) z0 hn HO.out (by rw [← HLL.out]; exact hL) (fun a b _ _ => by
          by_cases hf : tb bs k a b = farI
          · exact .inl hf
          · have := tb_bd HO.out hf; right; omega) h1 X h2 h3 h4
        rw [← HLL.out] at hex
        have HEX := Lib.hid hex
        clear hex
        unfold btw tblV at HEX
        have hsY : s + n < Y.heap.size := by omega
        have hin2 : B ≤ Y.heap.size := by omega
        gi_wp2_with (first
          | (refine ⟨trivial, fun _ => (by omega), ?_⟩; gi_at_call 67; refine (callsIn_wide.2 (empty_any _ _ _ _ _ hn _ HM.out)).mono ?_; rintro e w3 ⟨rfl, ht3, hb3⟩; have HT3 := Lib.hid ht3; have HT4 := Lib.hid (HT.out.step hb3); have HB3 := Lib.hid (HB.out.step hb3); have BB3 := Lib.hid hb3; have HR3 := Lib.hid ((HRD.out.more hin2).below hb3); obtain ⟨n0, n1, _, _⟩ := HB3.out.two; clear ht3 hb3)
          | (refine ⟨trivial, fun _ => (by omega), ?_⟩; gi_at_call 61; refine (callsIn_wide.2 (HEX.out _ _ hsY HR3.out HT4.out HT3.out)).mono ?_; rintro e w4 ⟨rfl, ht5, hb5⟩; have HT5 := Lib.hid ht5; have BB5 := Lib.hid (BB3.out.trans hb5); clear ht5 hb5))
        gi_roundg (n + 1 - (k + 1))
        case measure => omega
        case rel =>
          have g := grown_of_below BB5.out (Nat.le_refl _)
          exact ⟨k + 1, Y.heap.size, Y.heap.size, by go_num, by omega, rfl, ⟨Nat.le_refl _, by omega, HT5.out, HJ.out _ _ _ _ _ HJ'.out g, fun i t C h1 h2 hr => (HK.out i t C h1 h2 hr).step BB5.out, HB.out.step BB5.out, HRD.out.below (BB5.out.mono hin2)⟩⟩
      · have HX := Lib.hid hjx
        clear hjx b0 b1
        gi_wp2
        exact bodyPost_ret (results_none rfl _ _ _) rfl ⟨⟨_, rfl⟩, .inr HX.out⟩
    · obtain rfl : k = n + 1 := by omega
      have HJJ := Lib.hid S.j
      clear S
      gi_wp2
      go_end0
      exact ⟨⟨_, rfl⟩, .inl ⟨_, _, HJJ.out⟩⟩

set_option maxRecDepth 100000 in
set_option maxHeartbeats 4000000 in
theorem longest_in (m n : Nat) (bs : List Bn) (A : Option Addr) (c : Nat) (hm : 4 ≤ m) (hn : n ≤ 16) (ho : Okb n bs) (hL : bs.length ≤ 60) (w : World) (hr : Rds w w.heap.size A bs) :
    CallsIn Fence.wide m Try.prog 39 #[btw n A bs.length c] w fun e w' => ∃ s, e = .returned (tblV s n) ∧ Tbl w' s n (tb bs n) ∧ Below w.heap.size w w' := by
  obtain ⟨L, hLL⟩ : ∃ L, L = bs.length := ⟨_, rfl⟩
  rw [← hLL]
  rw [← hLL] at hL
  unfold btw
  have HLL := Lib.hid hLL; have HO := Lib.hid ho; have HR := Lib.hid hr
  clear hLL ho hr
  have hm1 : 1 ≤ m := by omega
  refine callsIn_of_wp_marks Try.func39 rfl trivial ?_ rfl
  simp only [Try.ntmps39, List.size_toArray, List.length_cons, List.length_nil, Nat.reduceAdd, Nat.reduceSub, Array.replicate_succ, Array.replicate_zero, List.push_toArray, List.append_toArray, List.nil_append, List.cons_append]
  gi_wp2_with (refine ⟨trivial, ?_⟩; gi_at_call 54; refine (callsIn_wide.2 (lengths_any n A L c _)).mono ?_; rintro e w1 ⟨rfl, rfl⟩)
  obtain ⟨w3, hw3⟩ : ∃ w3, w3 = ((w.alloc (.cells #[.int .i64 (n : Int), .slice A L c] 28)).alloc (.cells #[.slice none 0 0] 63)).alloc (.cells #[.int .i64 (n : Int), .slice A L c] 28) := ⟨_, rfl⟩
  rw [← hw3]
  have z3 : w3.heap.size = w.heap.size + 1 + 1 + 1 := by rw [hw3]; simp
  have b3 : Below w.heap.size w w3 := by rw [hw3]; exact keep_alloc (keep_alloc (below_alloc _ _) _) _
  have rB : Row w3 (w.heap.size + 1 + 1) 28 #[.int .i64 (n : Int), .slice A L c] := by rw [hw3]; exact Row.made_at _ _ _ (by simp)
  have rX : Row w3 (w.heap.size + 1) 63 #[.slice none 0 0] := by rw [hw3]; exact (Row.made_at _ _ _ (by simp)).later _
  have hands := lengths_hands (m - 1) n bs A c (w.heap.size + 1 + 1) (fun i => i = w.heap.size + 1) (by omega) hn HO.out (by rw [← HLL.out]; exact hL) w3 (by rw [← HLL.out]; exact rB) (by simp) w.heap.size (by omega) (HR.out.below b3) (fun b hb e => by omega)
  have H3 := Lib.hid hw3; have B3 := Lib.hid b3; have RX := Lib.hid rX; have Z3 := Lib.hid z3
  clear hw3 b3 rB rX z3
  refine range_some rfl hm1 rfl trivial (enters_of Try.func59 (by kernel_rfl) rfl) (fun s => rfl) hands
    (fun k lo z s X Y h q => h.quiet q) (fun k lo s X Y Z q h => h.before q) (fun k lo s X Y Z h q => h.behind q)
    (fun k lo z X => Below w.heap.size w X ∧ w.heap.size ≤ X.heap.size ∧ ∃ v, Row X (w.heap.size + 1) 63 #[v] ∧ (1 ≤ k → ∃ s, v = tblV s n ∧ Tbl X s n (tb bs (k - 1)))) (fun _ => False)
    (fun k lo z X Y h q => ⟨q.below h.1 (by have := Z3.out; omega) h.2.1, Nat.le_trans h.2.1 q.size, by
      obtain ⟨v, h1, h2⟩ := h.2.2
      exact ⟨v, q.row h1, fun hk => by obtain ⟨s, e, ht⟩ := h2 hk; exact ⟨s, e, q.tbl ht⟩⟩⟩)
    (fun _ _ _ _ _ h _ => h) (fun _ _ h _ => h) (fun lo => ⟨B3.out, by have := Z3.out; omega, _, RX.out, fun h => absurd h (by omega)⟩) ?round ?done (fun _ _ _ h => h.elim)
  case round =>
    intro l k lo z s W T hl hlW hI hG hk hT
    unfold tblV
    gi_wp2
    refine hT _ _ hI hG ?_ ?_
    · exact grown_refl _
    intro W₂ hI2 hG2 hg
    obtain ⟨hb2, hs2, v, hr2, _⟩ := hI2
    have c2 := hr2.at (i := 0) rfl
    have f2 := hr2.free 0
    have HB := Lib.hid hb2; have HR2 := Lib.hid hr2; have HG2 := Lib.hid hG2
    clear hb2 hr2 hG2 hI hG hT hg
    gi_wp2
    have hz3 := Z3.out
    have ht := HG2.out.2.2
    have ht2 := ht.beside HR2.out (by decide) (by decide) 0 (.slice (some ⟨s, 0, none⟩) n n)
    refine ⟨⟨HB.out.setCell (p := ⟨w.heap.size + 1, 0, none⟩) (Nat.le_succ _) _, by simp; omega, _, HR2.out.stored 0 _, fun _ => ⟨s, rfl, by rw [Nat.add_sub_cancel]; exact ht2⟩⟩, ⟨by simp, fun i hi hx ho => ?_, fun i t C hi _ hr => ?_, fun f hf => ?_⟩, fun l' o hl' ho hc => ?_⟩
    · exact heap_setCell_other W₂ ⟨w.heap.size + 1, 0, none⟩ i _ ho
    · exact hr.aside (p := ⟨w.heap.size + 1, 0, none⟩) (by show w.heap.size + 1 ≠ i; omega) _
    · exact hf.beside HR2.out (by decide) (by decide) 0 _
    · rw [heap_setCell_other W₂ ⟨w.heap.size + 1, 0, none⟩ l' _ (fun e => by have e' : l' = w.heap.size + 1 := e; omega)]; exact ho
  case done =>
    intro D lo z W hD hI hK
    obtain ⟨hb, hs, v, hr, hv⟩ := hI
    obtain ⟨s, rfl, ht⟩ := hv (by omega)
    have c2 := hr.at (i := 0) rfl
    have HB := Lib.hid hb; have HT := Lib.hid ht; have HK := Lib.hid hK
    clear hb hr ht hK hv
    unfold tblV at c2
    gi_wp2
    refine ⟨by simp, .inl ⟨_, _, rfl, run_takeDeferred HK.out, ?_⟩⟩
    refine ⟨_, results_tmp rfl _ _ _, s, rfl, ?_, ?_⟩
    · have := (Quiet1.put (o' := .deferred none) HK.out (Nat.zero_le D) rfl).tbl HT.out
      rw [Nat.add_sub_cancel] at this
      exact this
    · exact (Quiet1.put (B := w.heap.size) HK.out (by have := Z3.out; omega) rfl).below HB.out (Nat.le_refl _) hs
theorem longest_any (n : Nat) (bs : List Bn) (A : Option Addr) (c : Nat) (hn : n ≤ 16) (ho : Okb n bs) (hL : bs.length ≤ 60) (w : World) (hr : Rds w w.heap.size A bs) :
    Calls Try.prog 39 #[btw n A bs.length c] w fun e w' => ∃ s, e = .returned (tblV s n) ∧ Tbl w' s n (tb bs n) ∧ Below w.heap.size w w' :=
  callsIn_wide.1 (longest_in 9 n bs A c (by omega) hn ho hL w hr)
end
end Go.Proofs.Ytkeimfkaoianmaa
