/- clock.Agree: the spell of most sources. -/
import Derived.Test.YtjhcdkllneeijaaChg
import Derived.Test.YtjhcdkllneeijaaWin
namespace Go.Proofs.Ytjhcdkllneeijaa
open Go.RowKit
open Go.Sort (HoldsK)

theorem holds_at {w : World} {g : Nat} {d : List (Int × Int)} (h : HoldsK encC 2 w g 0 d.toArray) {i : Nat} {x : Int × Int} (hx : d[i]? = some x) : w.cell? ⟨g, i * 2, none⟩ = some (.int .i64 x.1) ∧ w.cell? ⟨g, i * 2 + 1, none⟩ = some (.int .i64 x.2) := by
  obtain ⟨hi, hx'⟩ := List.getElem?_eq_some_iff.1 hx
  have e : d.toArray[i]! = x := by rw [getElem!_pos d.toArray i (by simpa using hi)]; simpa using hx'
  have h0 := (Go.Sort.HoldsK.cell h (i := i) (c := 0) (by simpa using hi) (by omega)).1
  have h1 := (Go.Sort.HoldsK.cell h (i := i) (c := 1) (by simpa using hi) (by omega)).1
  rw [e] at h0 h1
  rw [Nat.zero_add] at h0 h1
  exact ⟨h0, h1⟩
theorem holds_alloc {w : World} {g : Nat} {d : List (Int × Int)} (h : HoldsK encC 2 w g 0 d.toArray) (o : Obj) : HoldsK encC 2 (w.alloc o) g 0 d.toArray := fun j hj => by
  obtain ⟨h1, h2⟩ := h j hj
  have hb := World.block_lt_of_cell? _ _ h1
  have e := Below.heap_alloc w o g hb
  exact ⟨(World.cell?_of_block e).trans h1, (World.frozen?_of_block e).trans h2⟩
theorem holds_aside {w : World} {g : Nat} {d : List (Int × Int)} (h : HoldsK encC 2 w g 0 d.toArray) {p : Addr} (hp : p.block ≠ g) (v : Value) : HoldsK encC 2 (w.setCell p v) g 0 d.toArray := fun j hj => by
  obtain ⟨h1, h2⟩ := h j hj
  have e := Below.heap_setCell w p v g (fun e => hp e.symm)
  exact ⟨(World.cell?_of_block e).trans h1, (World.frozen?_of_block e).trans h2⟩
theorem load_sp {w : World} {g : Nat} {a b : Value} (h : Row w g 32 #[a, b]) : (loadVar 32 ⟨g, 0, none⟩).run Try.prog w = .ok (.agg #[a, b]) w := by
  obtain ⟨k0, k1, _, _⟩ := h.two
  simp [loadVar, go_sem, k0, k1]
section
variable {fn : Func} {p u : Tmp} {tmps : Array Value} {w : World} {g : Nat} {a b : Value}
theorem res_sp (h : fn.results = #[.cell p 32, .tmp u]) (hp : tmps.getD p undef = .pointer (some ⟨g, 0, none⟩)) (hr : Row w g 32 #[a, b]) : (results fn tmps).run Try.prog w = .ok (.tuple #[.agg #[a, b], tmps.getD u undef]) w := by
  have hl := load_sp hr
  have ha := asAddr_ptr (w := w) hp
  simp only [results, h]
  simp [Sem.run_bind, Result.andThen, ha, hl, -Array.getD_eq_getD_getElem?]
end
/-- What Agree hands back. -/
def agrV (f t k : Int) : Value := .tuple #[.agg #[.int .i64 f, .int .i64 t], .int .i64 k]

set_option maxRecDepth 100000 in
set_option maxHeartbeats 16000000 in
theorem agree_any (l : List (Int × Int)) (hl : l.length ≤ 1000) (A : Option Addr) (c : Nat) (w : World) (hs : Sps w w.heap.size A l) :
    Calls Try.prog 13 #[.slice A l.length c] w fun e w' => (∃ f t k, e = .returned (agrV f t k) ∧ Agr l f t k) ∧ Below w.heap.size w w' := by
  obtain ⟨L, hL⟩ : ∃ L, L = l.length := ⟨_, rfl⟩
  have hc := fun (W : World) (h : Below w.heap.size w W) => changes_any l hl A c W (hs.deep h)
  rw [← hL] at hc ⊢
  have HC := Lib.hid hc
  have hN := chs_len l
  clear hc hs
  by_cases h0 : chs l = []
  · have hz : Agr l 0 0 0 := .inl ⟨rfl, rfl, rfl, fun s => by have := sumTo_chs l s; rw [h0] at this; simp [sumTo] at this; omega⟩
    have hc0 : ∀ W, Below w.heap.size w W → Calls Try.prog 33 #[.slice A L c] W fun e w' => e = .returned (.slice none 0 0) ∧ Below W.heap.size W w' := fun W h => (HC.out W h).mono (by
      rintro e w2 ⟨b2, h⟩
      rcases h with ⟨_, rfl⟩ | ⟨g, cap, d, _, hp, _⟩
      · exact ⟨rfl, b2⟩
      · exact absurd h0 hp)
    have HZ := Lib.hid hz; have HC0 := Lib.hid hc0
    clear hc0
    clear hz h0 hN hL hl
    go_enter Try.func13, Try.ntmps13
    go_wp2_with (go_at_call 33; (refine (HC0.out _ ((below_alloc _ _).alloc (by simp) _)).mono ?_); rintro e w2 ⟨rfl, b2⟩; have r1 : Row w2 w.heap.size 32 #[.int .i64 0, .int .i64 0] := Row.below (Row.later (Row.made _ _ _) _) b2 (by simp; omega); have r2 : Row w2 (w.heap.size + 1) 32 #[.int .i64 0, .int .i64 0] := Row.below (Row.made_at _ _ _ (by simp)) b2 (by simp); have B2 := Lib.hid (below_step ((below_alloc _ _).alloc (by simp) _) b2); have R1 := Lib.hid r1; have R2 := Lib.hid r2; clear b2 r1 r2)
    go_loopg [5, 6, 7, 9, 10, 15, 40, 48] 0 (fun kx s5 s6 s7 s9 s10 s15 s40 s48 wr => s15 = .int .i64 0 ∧ s5 = .int .i64 0 ∧ wr = w2)
    case atStart => exact ⟨rfl, rfl, rfl⟩
    case round =>
      obtain ⟨rfl, rfl, rfl⟩ := hrel
      obtain ⟨k0, k1, k2, k3⟩ := R2.out.two
      obtain ⟨m0, m1, m2, m3⟩ := R1.out.two
      go_wp2
      (try simp only [Exit.inBlock, Exit.then])
      refine bodyPost_ret (res_sp rfl rfl (put2 R1.out _ _)) rfl ?_
      exact ⟨⟨0, 0, 0, rfl, HZ.out⟩, below_put B2.out (Nat.le_refl _) _ _⟩
  · have hc1 : ∀ W, Below w.heap.size w W → Calls Try.prog 33 #[.slice A L c] W fun e w' => ∃ (g cap : Nat) (d : List (Int × Int)), e = .returned (.slice (some ⟨g, 0, none⟩) d.length cap) ∧ (chs l).Perm d ∧ Asc d ∧ HoldsK encC 2 w' g 0 d.toArray ∧ W.heap.size ≤ g ∧ g < w'.heap.size ∧ Below W.heap.size W w' := fun W h => (HC.out W h).mono (by
      rintro e w2 ⟨b2, h⟩
      rcases h with ⟨h, _⟩ | ⟨g, cap, d, he, _, hp, ha, hd, h1, h2⟩
      · exact absurd h h0
      · exact ⟨g, cap, d, he, hp, ha, hd, h1, h2, b2⟩)
    have HC1 := Lib.hid hc1; have HN := Lib.hid hN; have HL := Lib.hid hL
    clear hc1 hN hL h0
    go_enter Try.func13, Try.ntmps13
    go_wp2_with (go_at_call 33; (refine (HC1.out _ ((below_alloc _ _).alloc (by simp) _)).mono ?_); rintro e w2 ⟨g, cap, d, rfl, hp, ha, hd, hg1, hg2, b2⟩; have r1 : Row w2 w.heap.size 32 #[.int .i64 0, .int .i64 0] := Row.below (Row.later (Row.made _ _ _) _) b2 (by simp; omega); have r2 : Row w2 (w.heap.size + 1) 32 #[.int .i64 0, .int .i64 0] := Row.below (Row.made_at _ _ _ (by simp)) b2 (by simp); have B2 := Lib.hid (below_step ((below_alloc _ _).alloc (by simp) _) b2); have R1 := Lib.hid r1; have R2 := Lib.hid r2; have hw2 := B2.out.size; obtain ⟨N, hNd⟩ : ∃ N, N = d.length := ⟨_, rfl⟩; rw [← hNd]; have hN2 : N ≤ 2000 := (by have h1 := HN.out; have h2 := HL.out; have h3 := hp.length_eq; omega); have HD := Lib.hid hd; have HP := Lib.hid hp; have HA := Lib.hid ha; have HND := Lib.hid hNd; have hg3 : w.heap.size + 2 ≤ g := (by simpa using hg1); clear b2 r1 r2 hd hp ha hNd hg1)
    go_loopg [5, 6, 7, 9, 10, 15, 40, 48] N (fun kx s5 s6 s7 s9 s10 s15 s40 s48 wr => ∃ (i : Nat) (now most f t : Int) (o : Bool), s5 = .int .i64 most ∧ s6 = .int .i64 now ∧ s7 = .bool o ∧ s15 = .int .i64 (i : Int) ∧ i + kx = N ∧ Row wr w.heap.size 32 #[.int .i64 0, .int .i64 0] ∧ Row wr (w.heap.size + 1) 32 #[.int .i64 f, .int .i64 t] ∧ HoldsK encC 2 wr g 0 d.toArray ∧ w2.heap.size ≤ wr.heap.size ∧ Below w.heap.size w wr ∧ Hid (Scan d i now most f t o))
    case atStart => exact ⟨0, 0, 0, 0, 0, false, rfl, rfl, rfl, rfl, by omega, R1.out, R2.out, HD.out, Nat.le_refl _, B2.out, Lib.hid (Scan.first HA.out)⟩
    case round =>
      obtain ⟨i, now, most, f, t, o, rfl, rfl, rfl, rfl, hk, r1, r2, hd, hws, hb, I⟩ := hrel
      by_cases hlt : i < N
      · obtain ⟨⟨x1, x2⟩, hx⟩ : ∃ y, d[i]? = some y := ⟨d[i]'(by rw [← HND.out]; exact hlt), by simp⟩
        obtain ⟨e0, e1⟩ := holds_at hd hx
        dsimp only at e0 e1
        have hsm := part_small HP.out i
        rw [← I.out.hnow] at hsm
        have hx2 := chs_small (x1, x2) (HP.out.mem_iff.2 (List.mem_of_getElem? hx))
        dsimp only at hx2
        have hxr : -1 ≤ x2 ∧ x2 ≤ 1 := by omega
        obtain ⟨hx3, hx4⟩ := hxr
        obtain ⟨hs1, hs2⟩ := hsm
        have Rr1 := Lib.hid r1; have Rr2 := Lib.hid r2; have HHd := Lib.hid hd; have HB := Lib.hid hb; have HX := Lib.hid hx; have HX2 := Lib.hid hx2
        clear r1 r2 hd hb hx hx2
        go_wp2
        obtain ⟨W1, hW1⟩ : ∃ W1, W1 = wr.alloc (Obj.cells #[Value.int IntKind.i64 x1, Value.int IntKind.i64 x2] 58) := ⟨_, rfl⟩
        rw [← hW1]
        have q1 : Row W1 w.heap.size 32 #[.int .i64 0, .int .i64 0] := by rw [hW1]; exact Rr1.out.later _
        have q2 : Row W1 (w.heap.size + 1) 32 #[.int .i64 f, .int .i64 t] := by rw [hW1]; exact Rr2.out.later _
        have q3 : Row W1 wr.heap.size 58 #[.int .i64 x1, .int .i64 x2] := by rw [hW1]; exact Row.made _ _ _
        have q4 : HoldsK encC 2 W1 g 0 d.toArray := by rw [hW1]; exact holds_alloc HHd.out _
        have q5 : Below w.heap.size w W1 := by rw [hW1]; exact keep_alloc HB.out _
        have q6 : w2.heap.size ≤ W1.heap.size := by rw [hW1]; simp; omega
        obtain ⟨f0, f1, f2, f3⟩ := q2.two
        obtain ⟨c0, c1, c2, c3⟩ := q3.two
        have Q1 := Lib.hid q1; have Q2 := Lib.hid q2; have Q4 := Lib.hid q4; have Q5 := Lib.hid q5
        clear hW1 q1 q2 q3 e0 e1
        by_cases hl1 : i + 1 < N
        · obtain ⟨⟨y1, y2⟩, hy⟩ : ∃ y, d[i + 1]? = some y := ⟨d[i + 1]'(by rw [← HND.out]; exact hl1), by simp⟩
          obtain ⟨v0, v1⟩ := holds_at q4 hy
          dsimp only at v0 v1
          have hl2 : decide ((i : Int) + 1 < (N : Int)) = true := decide_eq_true (by omega)
          clear q4
          by_cases he : y1 = x1
          · subst he
            have hS := Lib.hid (I.out.skip HX.out hy rfl)
            clear hy
            go_quiet (fail)
            go_wp2
            go_roundg (N - (i + 1))
            case measure => omega
            case rel => exact ⟨i + 1, _, _, _, _, _, rfl, rfl, rfl, by go_num, by omega, Q1.out.drawnN _, Q2.out.drawnN _, Q4.out, q6, below_drawnN Q5.out _, hS⟩
          · have hn1 : ∀ y, d[i + 1]? = some y → (x1, x2).1 < y.1 := fun y hy' => by
              rw [hy] at hy'; cases hy'
              have := HA.out i (i + 1) _ _ (by omega) HX.out hy
              dsimp only at this ⊢
              omega
            have HN1 := Lib.hid hn1
            have he' : decide (y1 = x1) = false := decide_eq_false he
            clear hn1 hy
            by_cases hu : most < now + x2
            · have hS := Lib.hid (I.out.up HA.out HX.out HN1.out hu)
              go_quiet (fail)
              go_wp2
              go_roundg (N - (i + 1))
              case measure => omega
              case rel => exact ⟨i + 1, _, _, _, _, _, rfl, rfl, rfl, by go_num, by omega, (Q1.out.drawnN _).aside (by simp) _, (Q2.out.drawnN _).put0 _, holds_aside Q4.out (by simp; omega) _, (by first | exact q6 | (simp; exact q6)), (below_drawnN Q5.out _).setCell (Nat.le_succ _) _, hS⟩
            · by_cases hd2 : now + x2 < most
              · cases o
                · have hS := Lib.hid (I.out.stay HA.out HX.out (by dsimp only; omega) (fun h => by cases h))
                  go_quiet (fail)
                  go_wp2
                  go_roundg (N - (i + 1))
                  case measure => omega
                  case rel => exact ⟨i + 1, _, _, _, _, _, rfl, rfl, rfl, by go_num, by omega, Q1.out.drawnN _, Q2.out.drawnN _, Q4.out, (by first | exact q6 | (simp; exact q6)), below_drawnN Q5.out _, hS⟩
                · have hS := Lib.hid (I.out.down HA.out HX.out HN1.out hd2)
                  go_quiet (fail)
                  go_wp2
                  go_roundg (N - (i + 1))
                  case measure => omega
                  case rel => exact ⟨i + 1, _, _, _, _, _, rfl, rfl, rfl, by go_num, by omega, (Q1.out.drawnN _).aside (by simp) _, (Q2.out.drawnN _).put1 _, holds_aside Q4.out (by simp; omega) _, (by first | exact q6 | (simp; exact q6)), (below_drawnN Q5.out _).setCell (Nat.le_succ _) _, hS⟩
              · have hS := Lib.hid (I.out.stay HA.out HX.out (by dsimp only; omega) (fun _ => by dsimp only; omega))
                go_quiet (fail)
                go_wp2
                go_roundg (N - (i + 1))
                case measure => omega
                case rel => exact ⟨i + 1, _, _, _, _, _, rfl, rfl, rfl, by go_num, by omega, Q1.out.drawnN _, Q2.out.drawnN _, Q4.out, (by first | exact q6 | (simp; exact q6)), below_drawnN Q5.out _, hS⟩
        · have hn1 : ∀ y, d[i + 1]? = some y → (x1, x2).1 < y.1 := fun y hy' => by
            have := (List.getElem?_eq_some_iff.1 hy').1
            rw [← HND.out] at this; omega
          have HN1 := Lib.hid hn1
          have hl2 : decide ((i : Int) + 1 < (N : Int)) = false := decide_eq_false (by omega)
          clear hn1 q4
          by_cases hu : most < now + x2
          · have hS := Lib.hid (I.out.up HA.out HX.out HN1.out hu)
            go_quiet (fail)
            go_wp2
            go_roundg (N - (i + 1))
            case measure => omega
            case rel => exact ⟨i + 1, _, _, _, _, _, rfl, rfl, rfl, by go_num, by omega, (Q1.out.drawnN _).aside (by simp) _, (Q2.out.drawnN _).put0 _, holds_aside Q4.out (by simp; omega) _, (by first | exact q6 | (simp; exact q6)), (below_drawnN Q5.out _).setCell (Nat.le_succ _) _, hS⟩
          · by_cases hd2 : now + x2 < most
            · cases o
              · have hS := Lib.hid (I.out.stay HA.out HX.out (by dsimp only; omega) (fun h => by cases h))
                go_quiet (fail)
                go_wp2
                go_roundg (N - (i + 1))
                case measure => omega
                case rel => exact ⟨i + 1, _, _, _, _, _, rfl, rfl, rfl, by go_num, by omega, Q1.out.drawnN _, Q2.out.drawnN _, Q4.out, (by first | exact q6 | (simp; exact q6)), below_drawnN Q5.out _, hS⟩
              · have hS := Lib.hid (I.out.down HA.out HX.out HN1.out hd2)
                go_quiet (fail)
                go_wp2
                go_roundg (N - (i + 1))
                case measure => omega
                case rel => exact ⟨i + 1, _, _, _, _, _, rfl, rfl, rfl, by go_num, by omega, (Q1.out.drawnN _).aside (by simp) _, (Q2.out.drawnN _).put1 _, holds_aside Q4.out (by simp; omega) _, (by first | exact q6 | (simp; exact q6)), (below_drawnN Q5.out _).setCell (Nat.le_succ _) _, hS⟩
            · have hS := Lib.hid (I.out.stay HA.out HX.out (by dsimp only; omega) (fun _ => by dsimp only; omega))
              go_quiet (fail)
              go_wp2
              go_roundg (N - (i + 1))
              case measure => omega
              case rel => exact ⟨i + 1, _, _, _, _, _, rfl, rfl, rfl, by go_num, by omega, Q1.out.drawnN _, Q2.out.drawnN _, Q4.out, (by first | exact q6 | (simp; exact q6)), below_drawnN Q5.out _, hS⟩
      · have hI := I.out
        obtain rfl : i = d.length := by rw [← HND.out]; omega
        have hz := hI.done HP.out
        obtain ⟨k0, k1, k2, k3⟩ := r2.two
        obtain ⟨m0, m1, m2, m3⟩ := r1.two
        have Rr1 := Lib.hid r1; have HB := Lib.hid hb; have HZ := Lib.hid hz
        clear r1 r2 hd hb hI I hz
        go_wp2
        (try simp only [Exit.inBlock, Exit.then])
        refine bodyPost_ret (res_sp rfl rfl (put2 Rr1.out _ _)) rfl ?_
        exact ⟨⟨f, t, most, rfl, HZ.out⟩, below_put HB.out (Nat.le_refl _) _ _⟩
end Go.Proofs.Ytjhcdkllneeijaa
