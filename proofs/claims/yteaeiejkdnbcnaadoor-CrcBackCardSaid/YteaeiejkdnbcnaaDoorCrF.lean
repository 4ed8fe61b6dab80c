/-
  Contracts of crc.Frame and the document's Frame.
-/
import Derived.Test.YteaeiejkdnbcnaaDoorCrA
import Derived.Deep.RegionHeld3
import Derived.Deep.DeepFit
namespace Go.Proofs.YteaeiejkdnbcnaaDoor
open Go Go.RowKit

/-- A frame's head, and a frame. -/
def headL (k : UInt8) (l : List UInt8) : List UInt8 := k :: encL (BitVec.ofNat 32 l.length)
def frameL (k : UInt8) (l : List UInt8) : List UInt8 := sealL (headL k l) ++ sealL l
theorem headL_len (k : UInt8) (l : List UInt8) : (headL k l).length = 5 := rfl
theorem frameL_len (k : UInt8) (l : List UInt8) : (frameL k l).length = 13 + l.length := by
  unfold frameL
  rw [List.length_append, sealL_len, sealL_len, headL_len]; omega
/-- Block b is a box with a piece, and the world holds its bytes. -/
def PieceAt (w : World) (b : Nat) (k : UInt8) (p : Option Addr) (c : Nat) (l : List UInt8) : Prop :=
  b < w.heap.size ∧ w.cell? ⟨b, 0, none⟩ = some (.int .u8 (k.toNat : Int)) ∧ w.cell? ⟨b, 1, none⟩ = some (.slice p l.length c) ∧ BytIn w.heap.size w (.slice p l.length c) l
theorem PieceAt.on {w w' : World} {b : Nat} {k : UInt8} {p : Option Addr} {c : Nat} {l : List UInt8} (h : PieceAt w b k p c l) (hb : Below w.heap.size w w') : PieceAt w' b k p c l :=
  ⟨Nat.lt_of_lt_of_le h.1 hb.size, (hb.cell (p := ⟨b, 0, none⟩) h.1).trans h.2.1, (hb.cell (p := ⟨b, 1, none⟩) h.1).trans h.2.2.1, (h.2.2.2.below hb).mono hb.size⟩
theorem PieceAt.bytes {w : World} {b : Nat} {k : UInt8} {p : Option Addr} {c : Nat} {l : List UInt8} (h : PieceAt w b k p c l) : BytIn w.heap.size w (.slice p l.length c) l := h.2.2.2
theorem PieceAt.box {w : World} {k : UInt8} {p : Option Addr} {c : Nat} {l : List UInt8} {T : TypeId} (h : BytIn w.heap.size w (.slice p l.length c) l) : PieceAt (w.alloc (.cells #[.int .u8 (k.toNat : Int), .slice p l.length c] T)) w.heap.size k p c l := by
  refine ⟨by simp, ?_, ?_, (h.below ((Below.refl _ _).alloc (Nat.le_refl _) _)).mono (by simp)⟩
  · rw [cell_of_row _ w.heap.size 0 _ _ (0, 0) (heap_alloc_new w _)]; rfl
  · rw [cell_of_row _ w.heap.size 1 _ _ (0, 0) (heap_alloc_new w _)]; rfl
def FrameEnd (k : UInt8) (l : List UInt8) (w : World) (e : Ending) (w' : World) : Prop := ∃ v, e = .returned (.tuple #[v, .int .i64 0]) ∧ OwnB w.heap.size w' v (frameL k l) ∧ Below w.heap.size w w'
set_option maxHeartbeats 1000000 in
set_option maxRecDepth 100000 in
theorem frame_long (k : UInt8) (p : Option Addr) (c : Nat) (l : List UInt8) (w : World) (hl : 1048576 < l.length) :
    Calls Tryd.prog 20 #[.agg #[.int .u8 (k.toNat : Int), .slice p l.length c]] w fun e w' => e = .returned (.tuple #[.slice none 0 0, .int .i64 2]) ∧ Below w.heap.size w w' := by
  have h1 : (1048576 : Int) < (l.length : Int) := by omega
  go_enter Tryd.func20, Tryd.ntmps20
  go_wp2_with fail
  go_ret2
  exact ⟨rfl, (Below.refl _ _).alloc (Nat.le_refl _) _⟩
theorem byt_lit1 (w : World) (k : UInt8) : BytIn (w.heap.size + 1) (w.alloc (.cells #[.int .u8 (k.toNat : Int)] 5)).drew (.slice (some ⟨w.heap.size, 0, none⟩) [k].length 1) [k] :=
  (BytIn.lit w _ [k] 1 rfl (bytesV_single rfl)).below (Below.refl _ _).drew
theorem size_one (w : World) (o : Obj) : (w.alloc o).heap.size = w.heap.size + 1 := by simp
/-- A piece's kind laid behind a length: both are held by a new row. -/
theorem TwoB.litK {w1 : World} {k : UInt8} {q : Option Addr} {d : Nat} {m : List UInt8} (h : BytIn w1.heap.size w1 (.slice q m.length d) m) :
    TwoB ((w1.alloc (.cells #[.int .u8 (k.toNat : Int)] 5)).alloc (.cells #[.slice (some ⟨w1.heap.size, 0, none⟩) 1 1, .slice q m.length d] 22)) (w1.heap.size + 1) [k] m := by
  have hs := size_one w1 (.cells #[.int .u8 (k.toNat : Int)] 5)
  have h1 : BytIn (w1.heap.size + 1) (w1.alloc (.cells #[.int .u8 (k.toNat : Int)] 5)) (.slice (some ⟨w1.heap.size, 0, none⟩) [k].length 1) [k] := BytIn.lit w1 #[.int .u8 (k.toNat : Int)] [k] 1 rfl (bytesV_single rfl)
  have h2 : BytIn (w1.heap.size + 1) (w1.alloc (.cells #[.int .u8 (k.toNat : Int)] 5)) (.slice q m.length d) m := (h.below ((Below.refl _ _).alloc (Nat.le_refl _) _)).mono (Nat.le_succ _)
  rw [← hs] at h1 h2 ⊢
  exact TwoB.lit (l := [k]) h1 h2
set_option maxHeartbeats 1000000 in
set_option maxRecDepth 100000 in
theorem frame_any (k : UInt8) (p : Option Addr) (c : Nat) (l : List UInt8) (w : World) (h : BytIn w.heap.size w (.slice p l.length c) l) (hl : l.length ≤ 1048576) (G : Glob w) :
    Calls Tryd.prog 20 #[.agg #[.int .u8 (k.toNat : Int), .slice p l.length c]] w (FrameEnd k l w) := by
  have HP := Lib.hid (PieceAt.box (T := 35) (k := k) h)
  have HG := Lib.hid G
  have h1 : (l.length : Int) ≤ 1048576 := by omega
  obtain ⟨x, hx, HX⟩ : ∃ x : Reg, IntKind.u32.wrap (l.length : Int) = rg x ∧ Hid (x = BitVec.ofNat 32 l.length) := ⟨BitVec.ofNat 32 l.length, by
    unfold rg
    rw [IntKind.wrap_u32', BitVec.toNat_ofNat]
    omega, Lib.hid rfl⟩
  clear h G
  have HK : Hid (BytIn (w.heap.size + 2) ((w.alloc (.cells #[.int .u8 (k.toNat : Int), .slice p l.length c] 35)).alloc (.cells #[.int .u8 (k.toNat : Int)] 5)).drew (.slice (some ⟨w.heap.size + 1, 0, none⟩) [k].length 1) [k]) := Lib.hid (by
    have e : (w.alloc (.cells #[.int .u8 (k.toNat : Int), .slice p l.length c] 35)).heap.size = w.heap.size + 1 := by simp
    have h := byt_lit1 (w.alloc (.cells #[.int .u8 (k.toNat : Int), .slice p l.length c] 35)) k
    rw [e] at h
    exact h)
  have HS2 : Hid (((w.alloc (.cells #[.int .u8 (k.toNat : Int), .slice p l.length c] 35)).alloc (.cells #[.int .u8 (k.toNat : Int)] 5)).drew.heap.size = w.heap.size + 2) := Lib.hid (by simp)
  have HW : Hid (Below w.heap.size w ((w.alloc (.cells #[.int .u8 (k.toNat : Int), .slice p l.length c] 35)).alloc (.cells #[.int .u8 (k.toNat : Int)] 5)).drew) := Lib.hid (((Below.refl _ _).alloc (Nat.le_refl _) _).alloc (by simp) _).drew
  have HP2 : Hid (PieceAt ((w.alloc (.cells #[.int .u8 (k.toNat : Int), .slice p l.length c] 35)).alloc (.cells #[.int .u8 (k.toNat : Int)] 5)).drew w.heap.size k p c l) := Lib.hid (HP.out.on (((Below.refl _ _).alloc (Nat.le_refl _) _).drew))
  have HW3 : Hid (Below w.heap.size w (w.alloc (.cells #[.int .u8 (k.toNat : Int), .slice p l.length c] 35)).drew) := Lib.hid ((Below.refl _ _).alloc (Nat.le_refl _) _).drew
  have HP3 : Hid (PieceAt (w.alloc (.cells #[.int .u8 (k.toNat : Int), .slice p l.length c] 35)).drew w.heap.size k p c l) := Lib.hid (HP.out.on ((Below.refl _ _).drew))
  go_enter Tryd.func20, Tryd.ntmps20
  go_wp2_with fail
  go_region_held3 (fun w' => w'.cell? ⟨w.heap.size, 0, none⟩ = some (.int .u8 (k.toNat : Int)) ∧ w'.cell? ⟨w.heap.size, 1, none⟩ = some (.slice p l.length c))
    (first | go_keep | with_reducible exact ⟨HP0.out.2.1, HP0.out.2.2.1⟩ | with_reducible exact ⟨HP1.out.2.1, HP1.out.2.2.1⟩ | with_reducible exact ⟨HP4.out.2.1, HP4.out.2.2.1⟩)
    ((first
      | (go_at_call 33; (with_reducible refine (enc_any x (((w.alloc (.cells #[.int .u8 (k.toNat : Int), .slice p l.length c] 35)).alloc (.cells #[.int .u8 (k.toNat : Int)] 5)).drew)).mono ?_); rintro e w1 ⟨v1, rfl, ho1, hb1⟩; obtain ⟨q, d, rfl⟩ := ho1.in_.shape; have HP1 := Lib.hid (HP2.out.on hb1); have HW1 := Lib.hid (HW.out.trans (hb1.mono HW.out.size)); have HT := Lib.hid (TwoB.lit (w1 := w1) (l := [k]) ((HK.out.below (hb1.mono (Nat.le_of_eq HS2.out.symm))).mono (Nat.le_trans (Nat.le_of_eq HS2.out.symm) hb1.size)) ho1.in_); clear ho1 hb1; have c0 := HP1.out.2.1; have c1 := HP1.out.2.2.1)
      | (go_at_call 33; (with_reducible refine (enc_any x ((w.alloc (.cells #[.int .u8 (k.toNat : Int), .slice p l.length c] 35)).drew)).mono ?_); rintro e w1 ⟨v1, rfl, ho1, hb1⟩; obtain ⟨q, d, rfl⟩ := ho1.in_.shape; have HP1 := Lib.hid ((HP3.out.on hb1).on ((Below.refl _ _).alloc (Nat.le_refl _) (.cells #[.int .u8 (k.toNat : Int)] 5))); have HW1 := Lib.hid ((HW3.out.trans (hb1.mono HW3.out.size)).alloc (HW3.out.trans (hb1.mono HW3.out.size)).size (.cells #[.int .u8 (k.toNat : Int)] 5)); have HT := Lib.hid (TwoB.litK (k := k) ho1.in_); have HP0 := Lib.hid (HP3.out.on hb1); clear ho1 hb1; have c0 := HP0.out.2.1; have c1 := HP0.out.2.2.1)
      | (go_at_call 38; refine (concat_any _ [k] (encL x) _ HT.out (by rw [encL_len, List.length_singleton]; decide)).mono ?_; intro e w2 he; obtain ⟨v2, rfl, ho2, hb2⟩ := EndB.up (HW1.out.alloc HW1.out.size _) he; obtain ⟨-, -, -, hb3⟩ := he; have HO2 := Lib.hid ho2; have HB2 := Lib.hid hb2; have HP4 := Lib.hid ((HP1.out.on ((Below.refl _ _).alloc (Nat.le_refl _) _)).on hb3); clear ho2 hb2 hb3; have c0 := HP4.out.2.1; have c1 := HP4.out.2.2.1)))
  all_goals
    clear HT HP1 HW1 HK HS2 HP2 HW HP3 HW3 c0 c1
    obtain ⟨q2, d2, rfl⟩ := HO2.out.in_.shape
    obtain ⟨h, hh⟩ : ∃ h, h = [k] ++ encL x := ⟨_, rfl⟩
    rw [← hh] at HO2 ⊢
    have HH : Hid (h = headL k l) := Lib.hid (by rw [hh, HX.out]; rfl)
    clear hh
    have HW := Lib.hid (HB2.out.drew)
    have HI := Lib.hid (show BytIn w2.drew.heap.size w2.drew (.slice q2 h.length d2) h from HO2.out.in_)
    have HP := Lib.hid (HP4.out.on (show Below w2.heap.size w2 w2.drew from (Below.refl _ _).drew))
    have HGW := Lib.hid (HG.out.below HW.out)
    have c0 := HP4.out.2.1
    have c1 := HP4.out.2.2.1
    go_wp2_with fail
    go_region_held3 (fun w' => w'.cell? ⟨w.heap.size, 1, none⟩ = some (.slice p l.length c))
      (first | go_keep | with_reducible exact HP5.out.2.2.1 | with_reducible exact HP6.out.2.2.1 | with_reducible exact HP7.out.2.2.1)
      ((first
        | (go_at_call 15; (with_reducible refine (seal_any (.slice q2 h.length d2) h w2.drew HI.out (by rw [HH.out, headL_len]; decide) HGW.out).mono ?_); rintro e w3 ⟨v3, rfl, ho3, hb3⟩; obtain ⟨q3, d3, rfl⟩ := ho3.in_.shape; have HP5 := Lib.hid (HP.out.on hb3); have HI3 := Lib.hid ho3.in_; have HB3 := Lib.hid (HW.out.trans (hb3.mono HW.out.size)); clear ho3 hb3; have c1 := HP5.out.2.2.1)
        | (go_at_call 38; refine (concat_any _ (sealL h) (sealL l) _ HT.out (by rw [sealL_len, sealL_len, HH.out, headL_len]; omega)).mono ?_; intro e w5 he; obtain ⟨v5, rfl, ho5, hb5⟩ := EndB.up (HB4.out.alloc HB4.out.size _) he; obtain ⟨-, -, -, hb6⟩ := he; have HO5 := Lib.hid ho5; have HB5 := Lib.hid hb5; have HP7 := Lib.hid ((HP6.out.on ((Below.refl _ _).alloc (Nat.le_refl _) _)).on hb6); clear ho5 hb5 hb6; have c1 := HP7.out.2.2.1)
        | (go_at_call 15; (with_reducible refine (seal_any (.slice p l.length c) l w3 (PieceAt.bytes HP5.out) (by omega) (HG.out.below HB3.out)).mono ?_); rintro e w4 ⟨v4, rfl, ho4, hb4⟩; obtain ⟨q4, d4, rfl⟩ := ho4.in_.shape; have HP6 := Lib.hid (HP5.out.on hb4); have HB4 := Lib.hid (HB3.out.trans (hb4.mono HB3.out.size)); have HT := Lib.hid (TwoB.lit (w1 := w4) ((HI3.out.below hb4).mono hb4.size) ho4.in_); clear ho4 hb4; have c1 := HP6.out.2.2.1)))
  all_goals
    have HF : Hid (sealL h ++ sealL l = frameL k l) := Lib.hid (by rw [HH.out]; rfl)
    go_wp2_with fail
    go_ret2
    exact ⟨v5, rfl, by rw [← HF.out]; exact HO5.out, HB5.out⟩
end Go.Proofs.YteaeiejkdnbcnaaDoor
