/- The heads of lists of records, and that two different lists with one head hold a collision, or a string whose digest is the first head. -/
import Derived.Test.YtjcamhekhfokhaaDoorBind
namespace Go.Proofs.YtjcamhekhfokhaaDoor
open Go.RowKit

/-- The text that a head is computed of. -/
def chainT (h x : ByteArray) : ByteArray := ⟨#[2]⟩ ++ h ++ x
theorem chainT_sum (a b : ByteArray) : sumS (chainT a b) = chainS a b := by
  unfold sumS chainS chainT; congr 1
theorem chainT_inj {a b c d : ByteArray} (h : chainT a b = chainT c d) (hs : a.size = c.size) : a = c ∧ b = d := by
  have h1 : (chainT a b).data.toList = (chainT c d).data.toList := by rw [h]
  simp [chainT, ByteArray.data_append] at h1
  have := List.append_inj h1 (by simpa using hs)
  exact ⟨ByteArray.ext (Array.toList_inj.1 this.1), ByteArray.ext (Array.toList_inj.1 this.2)⟩
theorem chainT_size (a b : ByteArray) : (chainT a b).size = a.size + b.size + 1 := by
  unfold chainT; rw [ByteArray.size_append, ByteArray.size_append]
  show 1 + a.size + b.size = _; omega
def zero32 : ByteArray := ⟨(List.replicate 32 0).toArray⟩
/-- The head of records, the last one first, and the texts of which the heads are computed. -/
def hdR : List ByteArray → ByteArray
  | [] => zero32
  | x :: r => chainS (hdR r) x
def hlR : List ByteArray → List ByteArray
  | [] => []
  | x :: r => chainT (hdR r) x :: hlR r
theorem hdR_size : ∀ r, (hdR r).size = 32
  | [] => rfl
  | x :: r => chainS_size _ _
theorem hlR_len : ∀ r, (hlR r).length = r.length
  | [] => rfl
  | x :: r => by simp [hlR, hlR_len r]
theorem hlR_sizes : ∀ r : List ByteArray, (∀ x ∈ r, x.size ≤ 1000) → ∀ x ∈ hlR r, x.size ≤ 2000
  | [], _, x, hx => by simp [hlR] at hx
  | y :: r, hr, x, hx => by
    have hy := hr y (by simp)
    rcases List.mem_cons.1 (show x ∈ chainT (hdR r) y :: hlR r from hx) with rfl | hx
    · rw [chainT_size, hdR_size]; omega
    · exact hlR_sizes r (fun z hz => hr z (by simp [hz])) x hx
/-- The longer of two lists of texts. -/
def longer (a b : List ByteArray) : List ByteArray := if a.length < b.length then b else a
theorem chain_clash : ∀ r r' : List ByteArray, r ≠ r' → hdR r = hdR r' → Clash (hlR r) (hlR r') ∨ (r.length ≠ r'.length ∧ ∃ T, (longer (hlR r) (hlR r'))[min r.length r'.length]? = some T ∧ sumS T = zero32)
  | [], [], h, _ => absurd rfl h
  | [], y :: q, _, hh => by
    refine .inr ⟨by simp, chainT (hdR q) y, ?_, ?_⟩
    · simp [longer, hlR]
    · rw [chainT_sum]; exact hh.symm
  | x :: q, [], _, hh => by
    refine .inr ⟨by simp, chainT (hdR q) x, ?_, ?_⟩
    · simp [longer, hlR]
    · rw [chainT_sum]; exact hh
  | x :: q, y :: q', hne, hh => by
    by_cases he : chainT (hdR q) x = chainT (hdR q') y
    · obtain ⟨h1, rfl⟩ := chainT_inj he (by rw [hdR_size, hdR_size])
      have hq : q ≠ q' := fun e => hne (by rw [e])
      rcases chain_clash q q' hq h1 with h | ⟨hl, T, hT, hs⟩
      · exact .inl h.tail
      · refine .inr ⟨by simpa using hl, T, ?_, hs⟩
        have hmin : min (q.length + 1) (q'.length + 1) = min q.length q'.length + 1 := by omega
        rw [List.length_cons, List.length_cons, hmin]
        by_cases hlt : (hlR q).length < (hlR q').length
        · rw [longer, if_pos hlt] at hT
          rw [longer, if_pos (by simpa [hlR] using hlt)]
          simpa [hlR] using hT
        · rw [longer, if_neg hlt] at hT
          rw [longer, if_neg (by simpa [hlR] using hlt)]
          simpa [hlR] using hT
    · exact .inl (Clash.head he (by rw [chainT_sum, chainT_sum]; exact hh))
end Go.Proofs.YtjcamhekhfokhaaDoor
