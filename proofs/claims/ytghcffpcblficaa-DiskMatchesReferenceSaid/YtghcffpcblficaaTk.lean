/- take, torn. -/
import Derived.Test.YtghcffpcblficaaTake
namespace Go.Proofs.Ytghcffpcblficaa
open Go.RowKit Go.Lib

set_option maxRecDepth 100000 in
set_option maxHeartbeats 4000000 in
theorem take_any (b n : Nat) (cur : List UInt8) (hn : cur.length = n) (h63 : n ≤ 4194304) (off : Nat) (s : ByteArray) (hfit : off + s.size ≤ n) (w : World) (hr : Row w b 5 (byteCells cur).toArray) :
    Calls Try.prog 36 #[.slice (some ⟨b, 0, none⟩) n n, .agg #[.int .i64 off, .string s]] w fun e w' => e = .returned (.tuple #[]) ∧ Kept (· = b) w w' ∧ Row w' b 5 (byteCells (putB cur (off, s))).toArray := by
  obtain ⟨W0, hW0⟩ : ∃ W0, W0 = w.alloc (.cells #[.int .i64 off, .string s] 71) := ⟨_, rfl⟩
  have hx : Row W0 w.heap.size 71 #[.int .i64 off, .string s] := by rw [hW0]; exact Row.made _ _ _
  have hb : Row W0 b 5 (byteCells cur).toArray := by rw [hW0]; exact hr.later _
  have hk : Kept (· = b) w W0 := by rw [hW0]; exact (Kept.refl _ _).alloc _
  obtain ⟨x0, x1, _, _⟩ := hx.two
  have hle : off ≤ n := by omega
  have HB := Lib.hid hb; have HK := Lib.hid hk; have HN := Lib.hid hn
  clear hb hk hr hx hn
  go_enter Try.func36, Try.ntmps36
  go_upto_region 1 with (fail)
  rw [← hW0]
  clear hW0
  go_still_tail 6, (by kernel_rfl)
  have c6 : Try.prog.underlying 61 = some (.slice 5) := Try.underlying61
  go_wp2_with ((with_reducible show wpList _ _ _ (Oper.mk (some 10) _ _ _ _ _ :: _) _ _); go_loud (refine wpList_copy_str rfl _ _ 61 9 rfl 5 c6 u8_size _ _ _ s (by rfl) (by rfl) b off cur 5 HB.out (by omega) (fun hp => by rw [if_neg (by omega)]) (by rw [HN.out]; exact hfit) ?_); intro w2 hr2 hk2)
  all_goals (go_end0; exact ⟨rfl, HK.out.drew.trans hk2 (fun i hi => .inl hi), hr2.out⟩)
theorem load_wr {w : World} {g : Nat} {t : TypeId} {a b : Value} (h : Row w g t #[a, b]) : (loadVar 71 ⟨g, 0, none⟩).run Try.prog w = .ok (.agg #[a, b]) w := by
  obtain ⟨k0, k1, _, _⟩ := h.two
  simp [loadVar, go_sem, k0, k1]
theorem asAddr_ptr {p : Tmp} {tmps : Array Value} {w : World} {g : Nat} (hp : tmps.getD p undef = .pointer (some ⟨g, 0, none⟩)) : (asAddr (tmps.getD p undef)).run Try.prog w = .ok ⟨g, 0, none⟩ w := by rw [hp]; rfl
theorem res_wr {fn : Func} {p : Tmp} {tmps : Array Value} {w : World} {g : Nat} {t : TypeId} {a b : Value} (h : fn.results = #[.cell p 71]) (hp : tmps.getD p undef = .pointer (some ⟨g, 0, none⟩)) (hr : Row w g t #[a, b]) : (results fn tmps).run Try.prog w = .ok (.agg #[a, b]) w := by
  have hl := load_wr hr
  have ha := asAddr_ptr (w := w) hp
  simp only [results, h]
  simp [Sem.run_bind, Result.andThen, ha, hl, -Array.getD_eq_getD_getElem?]
set_option maxRecDepth 100000 in
set_option maxHeartbeats 4000000 in
theorem torn_any (p : Nat × ByteArray) (t : Nat) (hs : p.2.size ≤ 4194304) (w : World) :
    Calls Try.prog 41 #[.agg #[.int .i64 p.1, .string p.2], .int .i64 t] w fun e w' => e = .returned (.agg #[.int .i64 (cutW t p).1, .string (cutW t p).2]) ∧ Below w.heap.size w w' := by
  obtain ⟨off, s⟩ := p
  dsimp only [cutW] at hs ⊢
  obtain ⟨m, hm⟩ : ∃ m, m = min t s.size := ⟨_, rfl⟩
  have hmin : ∀ w : World, (Builtin.min_ #[3, 3] 3 #[.int .i64 t, .int .i64 s.size]).run Try.prog w = .ok (.int .i64 (m : Int)) w := fun w => by
    simp only [Builtin.min_, List.foldlM_cons, List.foldlM_nil, Builtin.min2, pure_bind, bind_pure]
    simp only [Sem.run_pure]
    congr 2
    split <;> omega
  have hms : m ≤ s.size := by omega
  rw [← hm]
  obtain ⟨S, hS⟩ : ∃ S, S = s.extract 0 m := ⟨_, rfl⟩
  have hS' := hS.symm
  rw [hS']
  obtain ⟨W0, hW0⟩ : ∃ W0, W0 = (w.alloc (.cells #[.int .i64 off, .string s] 71)).alloc (.cells #[.int .i64 0, .string ⟨#[]⟩] 71) := ⟨_, rfl⟩
  have hx : Row W0 w.heap.size 71 #[.int .i64 off, .string s] := by rw [hW0]; exact (Row.made _ _ _).later _
  have hy : Row W0 (w.heap.size + 1) 71 #[.int .i64 0, .string ⟨#[]⟩] := by rw [hW0]; exact Row.made_at _ _ _ (by simp)
  have hb : Below w.heap.size w W0 := by rw [hW0]; exact keep_alloc (below_alloc _ _) _
  obtain ⟨x0, x1, _, _⟩ := hx.two
  obtain ⟨y0, y1, g0, g1⟩ := hy.two
  have HB := Lib.hid hb; have HY := Lib.hid hy
  clear hb hx hm hy hS
  go_enter Try.func41, Try.ntmps41
  go_upto_region 1 with (fail)
  rw [← hW0]
  clear hW0
  go_still_tail 11, (by kernel_rfl)
  go_wp2
  refine bodyPost_ret (res_wr rfl rfl ((HY.out.drawn.stored 0 _).stored 1 _)) rfl ?_
  exact ⟨rfl, ((HB.out.drew).setCell (p := ⟨w.heap.size + 1, 0, none⟩) (by show w.heap.size ≤ w.heap.size + 1; omega) _).setCell (p := ⟨w.heap.size + 1, 1, none⟩) (by show w.heap.size ≤ w.heap.size + 1; omega) _⟩
end Go.Proofs.Ytghcffpcblficaa
