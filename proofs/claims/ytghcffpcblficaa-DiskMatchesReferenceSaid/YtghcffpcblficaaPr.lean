/- A disk and the reference's beside it; step. -/
import Derived.Test.YtghcffpcblficaaRz
namespace Go.Proofs.Ytghcffpcblficaa
open Go.RowKit Go.Lib

/-- Rows of calls of the arguments stay. -/
def BoxS (W Y : World) : Prop := ∀ k C, Row W k 39 C → Row Y k 39 C
theorem BoxS.of_below {W Y : World} (b : Below W.heap.size W Y) : BoxS W Y := fun _ _ r => r.step b
/-- Both disks. -/
structure P2 (w W : World) (hd : Dh) (hr : Rh) (dd dr : Dk) : Prop where
  d : DiskM W w.heap.size hd dd
  r : RefM W w.heap.size hr dr
  ap : ∀ k, hd.has k → ¬ hr.has k
  b : Below w.heap.size w W
def Pr (w W : World) (gd gr : Nat) (dd dr : Dk) : Prop := ∃ hd hr, hd.g = gd ∧ hr.g = gr ∧ P2 w W hd hr dd dr
section
variable {w W Y : World} {gd gr : Nat} {dd dr d' : Dk} {f : FuncId} {args : Array Value} {v : Value}
theorem Pr.step (T : Pr w W gd gr dd dr) (h : Below W.heap.size W Y) : Pr w Y gd gr dd dr := by
  obtain ⟨hd, hr, e1, e2, t⟩ := T
  exact ⟨hd, hr, e1, e2, t.d.step h, t.r.step h, t.ap, below_step t.b h⟩
theorem Pr.bel (T : Pr w W gd gr dd dr) : Below w.heap.size w W := by
  obtain ⟨hd, hr, e1, e2, t⟩ := T
  exact t.b
theorem Pr.onD (T : Pr w W gd gr dd dr) (H : ∀ h : Dh, h.g = gd → DiskM W w.heap.size h dd → w.heap.size ≤ W.heap.size → Calls Try.prog f args W fun e w' => e = .returned v ∧ Turned W w' w.heap.size h d') : Calls Try.prog f args W fun e w' => e = .returned v ∧ Pr w w' gd gr d' dr ∧ BoxS W w' := by
  obtain ⟨hd, hr, e1, e2, t⟩ := T
  refine (H hd e1 t.d t.b.size).mono fun e w' ⟨he, pv, m, k, hp⟩ => ⟨he, ⟨{ hd with pv := pv }, hr, e1, e2, m, t.r.kept k (fun i hi hs => t.ap i hs hi), fun i hi h2 => ?_, k.below t.b (fun i hi => t.d.from hi) t.b.size⟩, fun i C hr => hr.kept k (fun hi => ?_)⟩
  · rcases Turned.has (w := W) (w' := w') (B := w.heap.size) hp hi with h1 | h1
    · exact t.ap i h1 h2
    · have := t.r.inside h2; omega
  · rcases hi with e | e | e | e
    · exact hr.ne t.d.r (by decide) e
    · exact hr.ne t.d.a (by decide) e
    · exact hr.ne t.d.b (by decide) e
    · exact own_ne hr t.d.p (by decide) e
theorem Pr.onR (T : Pr w W gd gr dd dr) (H : ∀ h : Rh, h.g = gr → RefM W w.heap.size h dr → w.heap.size ≤ W.heap.size → Calls Try.prog f args W fun e w' => e = .returned v ∧ TurnedR W w' w.heap.size h d') : Calls Try.prog f args W fun e w' => e = .returned v ∧ Pr w w' gd gr dd d' ∧ BoxS W w' := by
  obtain ⟨hd, hr, e1, e2, t⟩ := T
  refine (H hr e2 t.r t.b.size).mono fun e w' ⟨he, sv, lv, m, k, hp⟩ => ⟨he, ⟨hd, ⟨hr.g, sv, lv⟩, e1, e2, t.d.kept k (fun i hi hs => t.ap i hi hs), m, fun i hi h2 => ?_, k.below t.b (fun i hi => t.r.from hi) t.b.size⟩, fun i C hr => hr.kept k (fun hi => ?_)⟩
  · rcases hp i h2 with h1 | h1
    · exact t.ap i hi h1
    · have := t.d.inside hi; omega
  · rcases hi with e | e | e
    · exact hr.ne t.r.r (by decide) e
    · exact own_ne hr t.r.s (by decide) e
    · exact own_ne hr t.r.l (by decide) e
theorem Pr.p (T : Pr w W gd gr dd dr) : dd.Ok ∧ dr.Ok := by
  obtain ⟨hd, hr, e1, e2, t⟩ := T
  exact ⟨t.d.ok, t.r.ok⟩
theorem Pr.wrD (T : Pr w W gd gr dd dr) (hp : dd.pend.length ≤ 1000) (o : Int) (o1 : In64 o) (s : ByteArray) (hs : s.size ≤ 9223372036854775807) :
    Calls Try.prog 21 #[.pointer (some ⟨gd, 0, none⟩), .int .i64 o, .string s] W fun e w' => e = .returned (.int .i64 (writeE dd o s)) ∧ Pr w w' gd gr (writeD dd o s) (dr) ∧ BoxS W w' :=
  T.onD fun h hg m hB => by subst hg; exact write_any m hB hp o o1.1 o1.2 s hs
theorem Pr.wrR (T : Pr w W gd gr dd dr) (hp : dr.pend.length ≤ 1000) (o : Int) (o1 : In64 o) (s : ByteArray) (hs : s.size ≤ 9223372036854775807) :
    Calls Try.prog 30 #[.pointer (some ⟨gr, 0, none⟩), .int .i64 o, .string s] W fun e w' => e = .returned (.int .i64 (writeE dr o s)) ∧ Pr w w' gd gr (dd) (writeD dr o s) ∧ BoxS W w' :=
  T.onR fun h hg m hB => by subst hg; exact rwrite_any m hB hp o o1.1 o1.2 s hs
theorem Pr.syD (T : Pr w W gd gr dd dr) :
    Calls Try.prog 23 #[.pointer (some ⟨gd, 0, none⟩)] W fun e w' => e = .returned (.int .i64 (readyE dd)) ∧ Pr w w' gd gr (syncD dd) (dr) ∧ BoxS W w' :=
  T.onD fun h hg m hB => by subst hg; exact sync_any m
theorem Pr.syR (T : Pr w W gd gr dd dr) (hp : dr.pend.length ≤ 1000) :
    Calls Try.prog 31 #[.pointer (some ⟨gr, 0, none⟩)] W fun e w' => e = .returned (.int .i64 (readyE dr)) ∧ Pr w w' gd gr (dd) (syncD dr) ∧ BoxS W w' :=
  T.onR fun h hg m hB => by subst hg; exact rsync_any m hB hp
theorem Pr.cuD (T : Pr w W gd gr dd dr) (n : Int) (hn : In64 n) :
    Calls Try.prog 24 #[.pointer (some ⟨gd, 0, none⟩), .int .i64 n] W fun e w' => e = .returned (.int .i64 (cutE dd n)) ∧ Pr w w' gd gr (cutD dd n) (dr) ∧ BoxS W w' :=
  T.onD fun h hg m hB => by subst hg; exact cut_any m n hn.2
theorem Pr.cuR (T : Pr w W gd gr dd dr) (n : Int) (hn : In64 n) :
    Calls Try.prog 32 #[.pointer (some ⟨gr, 0, none⟩), .int .i64 n] W fun e w' => e = .returned (.int .i64 (cutE dr n)) ∧ Pr w w' gd gr (dd) (cutD dr n) ∧ BoxS W w' :=
  T.onR fun h hg m hB => by subst hg; exact rcut_any m n hn.2
theorem Pr.crD (T : Pr w W gd gr dd dr) (hp : dd.pend.length ≤ 1000) (A : Option Addr) (kc m : Nat) (keep : List Int) (hm : m = keep.length) (hk : Nums w w.heap.size A keep) (hkl : keep.length ≤ 9223372036854775807) (t : Int) :
    Calls Try.prog 25 #[.pointer (some ⟨gd, 0, none⟩), .slice A m kc, .int .i64 t] W fun e w' => e = .returned (.int .i64 0) ∧ Pr w w' gd gr (crashD dd keep t) (dr) ∧ BoxS W w' :=
  T.onD fun h hg mm hB => by subst hg; subst hm; exact crash_any mm hp A kc keep ((hk.below T.bel).more T.bel.size) hkl t
theorem Pr.crR (T : Pr w W gd gr dd dr) (hp : dr.pend.length ≤ 1000) (A : Option Addr) (kc m : Nat) (keep : List Int) (hm : m = keep.length) (hk : Nums w w.heap.size A keep) (hkl : keep.length ≤ 9223372036854775807) (t : Int) (ht : In64 t) :
    Calls Try.prog 33 #[.pointer (some ⟨gr, 0, none⟩), .slice A m kc, .int .i64 t] W fun e w' => e = .returned (.tuple #[]) ∧ Pr w w' gd gr (dd) (crashD dr keep t) ∧ BoxS W w' :=
  T.onR fun h hg mm hB => by subst hg; subst hm; exact rcrash_any mm hp A kc keep ((hk.below T.bel).more T.bel.size) hkl t ht.1 ht.2 (by
    rcases hk with h0 | ⟨b, o, hA, hb, _⟩
    · exact .inl h0
    · refine .inr fun k hk b2 o2 hA2 e => ?_
      rw [hA] at hA2
      cases hA2
      have := mm.from hk
      omega)
theorem Pr.rdD (T : Pr w W gd gr dd dr) (o k : Int) (o1 : In64 o) : Calls Try.prog 14 #[.pointer (some ⟨gd, 0, none⟩), .int .i64 o, .int .i64 k] W fun e w' => e = .returned (.tuple #[.string (readS dd o k), .int .i64 (readE dd o k)]) ∧ w' = W := by
  obtain ⟨hd, hr, e1, e2, t⟩ := T
  subst e1
  exact read_any t.d o k o1.1 o1.2
theorem Pr.rdR (T : Pr w W gd gr dd dr) (hp : dr.pend.length ≤ 1000) (o k : Int) (o1 : In64 o) : Calls Try.prog 20 #[.pointer (some ⟨gr, 0, none⟩), .int .i64 o, .int .i64 k] W fun e w' => e = .returned (.tuple #[.string (readS dr o k), .int .i64 (readE dr o k)]) ∧ Below W.heap.size W w' := by
  obtain ⟨hd, hr, e1, e2, t⟩ := T
  subst e2
  exact rread_any t.r hp o k o1.1 o1.2
theorem Pr.size (T : Pr w W gd gr dd dr) : Calls Try.prog 16 #[.pointer (some ⟨gd, 0, none⟩)] W fun e w' => e = .returned (.int .i64 dd.dur.length) ∧ w' = W := by
  obtain ⟨hd, hr, e1, e2, t⟩ := T
  subst e1
  exact size_any t.d
theorem Pr.pending (T : Pr w W gd gr dd dr) : Calls Try.prog 17 #[.pointer (some ⟨gd, 0, none⟩)] W fun e w' => e = .returned (.int .i64 dd.pend.length) ∧ w' = W := by
  obtain ⟨hd, hr, e1, e2, t⟩ := T
  subst e1
  exact pending_any t.d
theorem Pr.lcell (T : Pr w W gd gr dd dr) : ∃ A c, W.cell? ⟨gr, 1, none⟩ = some (.slice A dr.pend.length c) := by
  obtain ⟨hd, hr, e1, e2, t⟩ := T
  subst e2
  obtain ⟨A, c, h⟩ := t.r.lvf
  exact ⟨A, c, by rw [t.r.c1, h]⟩
end
end Go.Proofs.Ytghcffpcblficaa
