/- dialtonelaw02.sane's facts: what its fixed examples come to. -/
import Derived.Test.YtjcamhekhfokhaaDoorHex
namespace Go.Proofs.YtjcamhekhfokhaaDoor
open Go.RowKit

def sA : ByteArray := ⟨#[97]⟩
def sB : ByteArray := ⟨#[98]⟩
def sC : ByteArray := ⟨#[99]⟩
def sD : ByteArray := ⟨#[100]⟩
def sABC : ByteArray := ⟨#[97, 98, 99]⟩
def nAB : ByteArray := nodeS (leafS sA) (leafS sB)
theorem half2 : half 2 = 1 := by decide +kernel
theorem half3 : half 3 = 2 := by decide +kernel
theorem root2 : root [sA, sB] = nAB := by
  rw [root_split (by simp)]; simp [half2, root_one, nAB]
theorem root3 : root [sA, sB, sC] = nodeS nAB (leafS sC) := by
  rw [root_split (by simp)]; simp [half3, root_one, root2]
theorem proof3 : proofE [sA, sB, sC] 2 = ([nAB], 0) := by
  rw [proofE, if_pos (by simp)]
  have : proof [sA, sB, sC] 2 = [nAB] := by
    rw [proof_split (by simp)]; simp [half3, root2, proof_one]
  simp [this]
theorem proof4 : proofE [sA, sB, sC] 3 = ([], 2) := by rw [proofE, if_neg (by simp)]
theorem ext3 : extE [sA, sB, sC] 1 = ([leafS sB, leafS sC], 0) := by
  rw [extE, if_neg (by simp), if_neg (by simp)]
  have h1 : part [sA] 1 true = [] := part_full [sA] true
  have h2 : part [sA, sB] 1 true = [leafS sB] := by
    rw [part_split (by decide) (by simp)]; simp [half2, root_one, h1]
  have h3 : part [sA, sB, sC] 1 true = [leafS sB, leafS sC] := by
    rw [part_split (by decide) (by simp)]; simp [half3, root_one, h2]
  simp [h3]
theorem ba_ne {a b : ByteArray} (h : ¬ a.data.toList = b.data.toList) : ¬ a = b := fun e => h (by rw [e])
theorem ver_c : verifyB (root [sA, sB, sC]) 3 2 sC [nAB] = true := by
  have hd : allDig [nAB] = true := by simp [allDig, nAB, nodeS_size]
  rw [verifyB, if_pos ⟨by decide, by decide, hd⟩, root3]
  simp [valueR, half3]
theorem ver_d : verifyB (root [sA, sB, sC]) 3 2 sD [nAB] = false := by
  have hd : allDig [nAB] = true := by simp [allDig, nAB, nodeS_size]
  have hne : ¬ nodeS nAB (leafS sD) = nodeS nAB (leafS sC) := ba_ne (by decide +kernel)
  rw [verifyB, if_pos ⟨by decide, by decide, hd⟩, root3]
  simp [valueR, half3, hne]
theorem vex_a : verifyE (root [sA]) 1 (root [sA, sB, sC]) 3 [leafS sB, leafS sC] = true := by
  have hd : allDig [leafS sB, leafS sC] = true := by simp [allDig, leafS_size]
  have hr : allDig [root [sA], root [sA, sB, sC]] = true := by simp [allDig, root_size]
  rw [verifyE, if_pos ⟨by decide, by decide, hr, hd⟩, root3, root_one]
  simp [twoR, half3, half2, nAB]
theorem vex_b : verifyE (root [sA, sB]) 1 (root [sA, sB, sC]) 3 [leafS sB, leafS sC] = false := by
  have hd : allDig [leafS sB, leafS sC] = true := by simp [allDig, leafS_size]
  have hr : allDig [root [sA, sB], root [sA, sB, sC]] = true := by simp [allDig, root_size]
  have hne : ¬ nodeS (nodeS nAB (leafS sB)) (leafS sC) = nodeS nAB (leafS sC) := ba_ne (by decide +kernel)
  rw [verifyE, if_pos ⟨by decide, by decide, hr, hd⟩, root3, root2]
  simp [twoR, half3, half2, hne]
theorem hex_0 : hexL (sumS ⟨#[]⟩).data.toList = [101, 51, 98, 48, 99, 52, 52, 50, 57, 56, 102, 99, 49, 99, 49, 52, 57, 97, 102, 98, 102, 52, 99, 56, 57, 57, 54, 102, 98, 57, 50, 52, 50, 55, 97, 101, 52, 49, 101, 52, 54, 52, 57, 98, 57, 51, 52, 99, 97, 52, 57, 53, 57, 57, 49, 98, 55, 56, 53, 50, 98, 56, 53, 53] := by decide +kernel
theorem hex_abc : hexL (sumS sABC).data.toList = [98, 97, 55, 56, 49, 54, 98, 102, 56, 102, 48, 49, 99, 102, 101, 97, 52, 49, 52, 49, 52, 48, 100, 101, 53, 100, 97, 101, 50, 50, 50, 51, 98, 48, 48, 51, 54, 49, 97, 51, 57, 54, 49, 55, 55, 97, 57, 99, 98, 52, 49, 48, 102, 102, 54, 49, 102, 50, 48, 48, 49, 53, 97, 100] := by decide +kernel
end Go.Proofs.YtjcamhekhfokhaaDoor
