/-
  Plain facts on seals and frames: what was sealed opens, what was framed is taken off again.
-/
import Derived.Test.YteaeiejkdnbcnaaDoorCrV
namespace Go.Proofs.YteaeiejkdnbcnaaDoor
open Go Go.RowKit

theorem openB_seal (l : List UInt8) : openB (sealL l) = true := by
  unfold openB
  rw [sealL_len, Nat.add_sub_cancel, sameB_iff]
  unfold sealL
  rw [List.drop_left, List.take_left]
theorem openE_seal (l : List UInt8) : openE (sealL l) = (0, l) := by
  rw [openE_ok (by rw [sealL_len]; omega) (openB_seal l), sealL_len, Nat.add_sub_cancel]
  unfold sealL
  rw [List.take_left]
theorem unfE_frame (k : UInt8) (l m : List UInt8) (hl : l.length ≤ 1048576) : unfE (frameL k l ++ m) = (0, 13 + l.length, k, l) := by
  have hlen : (frameL k l ++ m).length = 13 + l.length + m.length := by rw [List.length_append, frameL_len]
  have hf : frameL k l ++ m = sealL (headL k l) ++ (sealL l ++ m) := by unfold frameL; rw [List.append_assoc]
  have h9 : (frameL k l ++ m).take 9 = sealL (headL k l) := by
    rw [hf, List.take_append_of_le_length (by rw [sealL_len, headL_len]; decide), List.take_of_length_le (by rw [sealL_len, headL_len]; decide)]
  have hd9 : (frameL k l ++ m).drop 9 = sealL l ++ m := by
    have h := List.drop_left (l₁ := sealL (headL k l)) (l₂ := sealL l ++ m)
    rw [sealL_len, headL_len] at h
    rw [hf]; exact h
  have h5 : (frameL k l ++ m).take 5 = headL k l := by
    have e : (frameL k l ++ m).take 5 = ((frameL k l ++ m).take 9).take 5 := by rw [List.take_take]; rfl
    rw [e, h9]
    unfold sealL
    have h := List.take_left (l₁ := headL k l) (l₂ := encL (sumL (headL k l)))
    rw [headL_len] at h
    exact h
  have hd1 : (headL k l).drop 1 = encL (BitVec.ofNat 32 l.length) := rfl
  have hn : decN (encL (BitVec.ofNat 32 l.length)) = l.length := by
    rw [decN_enc, BitVec.toNat_ofNat]
    omega
  have ht : (sealL l ++ m).take (4 + l.length) = sealL l := by
    have h := List.take_left (l₁ := sealL l) (l₂ := m)
    rw [sealL_len, Nat.add_comm] at h
    exact h
  have ht2 : (sealL l ++ m).take l.length = l := by
    unfold sealL
    rw [List.append_assoc, List.take_left]
  have hk : (frameL k l ++ m).getD 0 0 = k := rfl
  unfold unfE
  rw [h9, h5, hd1, hn, hd9, ht, ht2, hk, if_neg (by omega), if_neg (by rw [openB_seal]; simp), if_neg (by omega), if_neg (by omega), if_neg (by rw [openB_seal]; simp)]
/-- The bytes of '123456789', and their sum. -/
def nineL : List UInt8 := [49, 50, 51, 52, 53, 54, 55, 56, 57]
theorem sum_nine : sumL nineL = 0xCBF43926#32 := by decide +kernel
end Go.Proofs.YteaeiejkdnbcnaaDoor
