/- RationalField: all that it calls; its memory. No walk. -/
import Derived.Test.YtgpncnnlhhmjaaaGreatDoorFldM
import Derived.Test.YtgpncnnlhhmjaaaGreatDoorOrd1
namespace Go.Proofs.YtgpncnnlhhmjaaaGreatDoor
open Go.RowKit

/-- All that RationalField calls. -/
theorem fld_all {a b c : Rat} (ha : okO (some a) = true) (hb : okO (some b) = true) (hc : okO (some c) = true) {long : Bool} (hl : long = false → Tiny a ∧ Tiny b) (Na Da Nb Db Nc Dc : ByteArray) (ea : Na = qtN (some a) ∧ Da = qtD (some a)) (eb : Nb = qtN (some b) ∧ Db = qtD (some b)) (ec : Nc = qtN (some c) ∧ Dc = qtD (some c)) :
    ∃ (Nr0 Dr0 Nr1 Dr1 Nr2 Dr2 Nr3 Dr3 Ns1 Ds1 Ns3 Ds3 Nt0 Dt0 Nt1 Dt1 Nt2 Dt2 Nt3 Dt3 Nu0 Du0 Nu1 Du1 Nu2 Du2 Nu3 Du3 No1 Do1 No2 Do2 Nlf Dlf Nac Dac Nsu Dsu Nwh Dwh Nbk Dbk Nag Dag : ByteArray) (er0 er1 er2 er3 es1 es3 et0 et1 et2 et3 eu0 eu1 eu2 eu3 eo1 eo2 elf eac esu ewh ebk eag : Int), Cl 15 #[rv Na Da, rv Nb Db] (.tuple #[.agg #[.string Nr0, .string Dr0, .string Nr1, .string Dr1, .string Nr2, .string Dr2, .string Nr3, .string Dr3], .agg #[.int .i64 er0, .int .i64 er1, .int .i64 er2, .int .i64 er3]]) ∧ Cl 15 #[rv Nb Db, rv Na Da] (.tuple #[.agg #[.string Nr0, .string Dr0, .string Ns1, .string Ds1, .string Nr2, .string Dr2, .string Ns3, .string Ds3], .agg #[.int .i64 er0, .int .i64 es1, .int .i64 er2, .int .i64 es3]]) ∧ Cl 15 #[rv Nb Db, rv Nc Dc] (.tuple #[.agg #[.string Nt0, .string Dt0, .string Nt1, .string Dt1, .string Nt2, .string Dt2, .string Nt3, .string Dt3], .agg #[.int .i64 et0, .int .i64 et1, .int .i64 et2, .int .i64 et3]]) ∧ Cl 15 #[rv Nr0 Dr0, rv Nc Dc] (.tuple #[.agg #[.string Nu0, .string Du0, .string Nu1, .string Du1, .string Nu2, .string Du2, .string Nu3, .string Du3], .agg #[.int .i64 eu0, .int .i64 eu1, .int .i64 eu2, .int .i64 eu3]]) ∧ Cl 38 #[rv Na Da, rv Nt0 Dt0] (.tuple #[.agg #[.string No1, .string Do1], .int .i64 eo1]) ∧ Cl 39 #[rv Na Da, rv Nt2 Dt2] (.tuple #[.agg #[.string No2, .string Do2], .int .i64 eo2]) ∧ Cl 39 #[rv Nr2 Dr2, rv Nc Dc] (.tuple #[.agg #[.string Nlf, .string Dlf], .int .i64 elf]) ∧ Cl 39 #[rv Na Da, rv Nc Dc] (.tuple #[.agg #[.string Nac, .string Dac], .int .i64 eac]) ∧ Cl 38 #[rv Nac Dac, rv Nt2 Dt2] (.tuple #[.agg #[.string Nsu, .string Dsu], .int .i64 esu]) ∧ Cl 39 #[rv Nr0 Dr0, rv Nc Dc] (.tuple #[.agg #[.string Nwh, .string Dwh], .int .i64 ewh]) ∧ Cl 40 #[rv Nr0 Dr0, rv Nb Db] (.tuple #[.agg #[.string Nbk, .string Dbk], .int .i64 ebk]) ∧ Cl 39 #[rv Nr3 Dr3, rv Nb Db] (.tuple #[.agg #[.string Nag, .string Dag], .int .i64 eag]) ∧ (Er er0 ∧ Er er2 ∧ Er er3 ∧ Er et0 ∧ Er et2 ∧ Er eu0 ∧ Er eo1 ∧ Er eo2 ∧ Er elf ∧ Er eac ∧ Er esu ∧ Er ewh ∧ Er ebk ∧ Er eag) ∧ (long = false → er0 = 0 ∧ er2 = 0) ∧ (er0 = 0 → et0 = 0 → eu0 = 0 → eo1 = 0 → Nu0 = No1 ∧ Du0 = Do1) ∧ (er2 = 0 → et2 = 0 → eo2 = 0 → elf = 0 → No2 = Nlf ∧ Do2 = Dlf) ∧ (er0 = 0 → eac = 0 → et2 = 0 → esu = 0 → ewh = 0 → Nsu = Nwh ∧ Dsu = Dwh) ∧ (er0 = 0 → ebk = 0 → Nbk = Na ∧ Dbk = Da) ∧ (er3 = 0 → eag = 0 → Nag = Na ∧ Dag = Da) := by
  obtain ⟨rfl, rfl⟩ := ea
  obtain ⟨rfl, rfl⟩ := eb
  obtain ⟨rfl, rfl⟩ := ec
  have kab := four_q ha hb
  have kba := four_q hb ha
  rw [addO_comm b a, mulO_comm b a] at kba
  have kt := four_q hb hc
  have ku := four_q (add_ok (some a) (some b)) hc
  refine ⟨_, _, _, _, _, _, _, _, _, _, _, _, _, _, _, _, _, _, _, _, _, _, _, _, _, _, _, _, _, _, _, _, _, _, _, _, _, _, _, _, _, _, _, _, _, _, _, _, _, _, _, _, _, _, _, _, _, _, _, _, _, _, _, _, _, _, kab, kba, kt, ku, fun W h => add_q ha (add_ok (some b) (some c)) W h, fun W h => mul_q ha (mul_ok (some b) (some c)) W h, fun W h => mul_q (mul_ok (some a) (some b)) hc W h, fun W h => mul_q ha hc W h, fun W h => add_q (mul_ok (some a) (some c)) (mul_ok (some b) (some c)) W h, fun W h => mul_q (add_ok (some a) (some b)) hc W h, fun W h => sub_q (add_ok (some a) (some b)) hb W h, fun W h => mul_q (div_ok (some a) (some b)) hb W h, ⟨er_of _, er_of _, er_of _, er_of _, er_of _, er_of _, er_of _, er_of _, er_of _, er_of _, er_of _, er_of _, er_of _, er_of _⟩, fun h => ⟨tiny_add (hl h).1 (hl h).2, tiny_mul (hl h).1 (hl h).2⟩, fun h0 h1 h2 h3 => ?_, fun h0 h1 h2 h3 => ?_, fun h0 h1 h2 h3 h4 => ?_, fun h0 h1 => ?_, fun h0 h1 => ?_⟩
  · rw [fld_add h0 h1 h2 h3]; exact ⟨rfl, rfl⟩
  · rw [fld_mul h0 h1 h2 h3]; exact ⟨rfl, rfl⟩
  · rw [fld_dist h0 h1 h2 h3 h4]; exact ⟨rfl, rfl⟩
  · rw [fld_back h0 h1]; exact ⟨rfl, rfl⟩
  · rw [fld_again h0 h1]; exact ⟨rfl, rfl⟩
theorem tiny_sm (x0 x1 : Int) : Tiny (smQ x0 x1) ∧ okO (some (smQ x0 x1)) = true := by
  have p0 := pkI_lo (c := x0) (n := 1999) (by decide)
  have p1 := pkI_hi (c := x0) (n := 1999) (by decide)
  have q0 := pkI_lo (c := x1) (n := 60) (by decide)
  have q1 := pkI_hi (c := x1) (n := 60) (by decide)
  refine ⟨⟨num_lt (by omega), ?_⟩, ok_divInt (fits_tiny (by omega)) (fits_tiny (by omega)) (by omega)⟩
  have := den_lt (n := pkI x0 1999 - 999) (d := 1 + pkI x1 60) (m := 1000000) (by omega) (by omega)
  rwa [Int.natAbs_natCast] at this
/-- Rows of any kind, and what lay below w. -/
def Gx (W : World) : List (Nat × TypeId × Array Value) → Prop
  | [] => True
  | (g, t, C) :: l => Row W g t C ∧ Gx W l
theorem Gx.over {W X : World} (hb : Below W.heap.size W X) : ∀ {l}, Gx W l → Gx X l
  | [], _ => trivial
  | (_, _, _) :: _, h => ⟨h.1.over hb, Gx.over hb h.2⟩
def Gv (w : World) (l : List (Nat × TypeId × Array Value)) (W : World) : Prop := Below w.heap.size w W ∧ Gx W l
theorem Gv.step {w W X : World} {l} (h : Gv w l W) (hb : Below W.heap.size W X) : Gv w l X := ⟨below_step h.1 hb, h.2.over hb⟩
theorem Gv.push {w W : World} {l} (h : Gv w l W) (t : TypeId) (C : Array Value) : Gv w ((W.heap.size, t, C) :: l) (W.alloc (.cells C t)) := ⟨keep_alloc h.1 _, Row.made _ _ _, h.2.over (below_alloc _ _)⟩
theorem Iv.u3 {w W : World} {g1 g2 g3 : Nat} {a1 b1 a2 b2 a3 b3 : ByteArray} (h : Iv w ((g1, a1, b1) :: (g2, a2, b2) :: (g3, a3, b3) :: []) W) (h3 : w.heap.size ≤ g3) (n1 : g3 ≠ g1) (n2 : g3 ≠ g2) (u1 u2 : ByteArray) :
    Iv w ((g1, a1, b1) :: (g2, a2, b2) :: (g3, u1, u2) :: []) ((W.setCell ⟨g3, 0, none⟩ (.string u1)).setCell ⟨g3, 1, none⟩ (.string u2)) := ⟨below_put h.1 h3 _ _, num_far h.2.1 n1 _ _, num_far h.2.2.1 n2 _ _, rat_put ⟨_, _, h.2.2.2.1⟩ u1 u2, trivial⟩
theorem Iv.u2 {w W : World} {g1 g2 g3 : Nat} {a1 b1 a2 b2 a3 b3 : ByteArray} (h : Iv w ((g1, a1, b1) :: (g2, a2, b2) :: (g3, a3, b3) :: []) W) (h3 : w.heap.size ≤ g2) (n1 : g2 ≠ g1) (n2 : g2 ≠ g3) (u1 u2 : ByteArray) :
    Iv w ((g1, a1, b1) :: (g2, u1, u2) :: (g3, a3, b3) :: []) ((W.setCell ⟨g2, 0, none⟩ (.string u1)).setCell ⟨g2, 1, none⟩ (.string u2)) := ⟨below_put h.1 h3 _ _, num_far h.2.1 n1 _ _, rat_put ⟨_, _, h.2.2.1⟩ u1 u2, num_far h.2.2.2.1 n2 _ _, trivial⟩
def AR3 (w : World) (X Y Z : Array Value) (W : World) : Prop := Row W w.heap.size 24 X ∧ Row W (w.heap.size + 1) 24 Y ∧ Row W (w.heap.size + 1 + 1) 25 Z
theorem AR3.over {w W W' : World} {X Y Z : Array Value} (h : AR3 w X Y Z W) (hb : Below W.heap.size W W') : AR3 w X Y Z W' := ⟨Row.over h.1 hb, Row.over h.2.1 hb, Row.over h.2.2 hb⟩

end Go.Proofs.YtgpncnnlhhmjaaaGreatDoor
