/-
  Runs are alive: the law's own check.
  RunNobody: the walk of the law.
  The frame of a run law's proof: what every row of these laws lists.
-/
import Derived.Test.YtdjhfcopnhcljaaGreatDoorW47
import Derived.ProofKit
import Derived.LaidMore
import Derived.OpenShut
import Derived.ChangeOld
import Derived.ChangeSame
import Derived.WideShapes
import Derived.Deep.Slices
import Derived.Deep.Fields
import Derived.Stop.Joined
import Derived.Stop.LaidErr
import Derived.Lib.SmallJoins
namespace Go.Proofs.YtdjhfcopnhcljaaGreatDoor
section
open Go Go.RowKit

theorem five_en {w : World} {b : Nat} (h : TupIn w.heap.size w (.slice (some ⟨b, 0, none⟩) 1 1) T5) : EnIn (w.alloc (.cells #[.slice (some ⟨b, 0, none⟩) 1 1, .int .i64 1] 66)).heap.size (w.alloc (.cells #[.slice (some ⟨b, 0, none⟩) 1 1, .int .i64 1] 66)) (.slice (some ⟨w.heap.size, 0, none⟩) 1 1) E5 := by
  have hb := below_new w (.cells #[.slice (some ⟨b, 0, none⟩) 1 1, .int .i64 1] 66)
  have hA := World.alloc_heap_new w (.cells #[.slice (some ⟨b, 0, none⟩) 1 1, .int .i64 1] 66)
  obtain ⟨⟨r0, r1⟩, -⟩ := cells2R hA
  refine ⟨_, _, rfl, by decide, by decide, .inr ⟨_, 0, rfl, by simp, fun j hj => ?_⟩⟩
  have hj : j < 1 := hj
  obtain rfl : j = 0 := by omega
  exact ⟨_, r0, r1, (h.below hb).mono hb.size⟩
theorem DkS.belowB {n0 : Nat} {w w' : World} {d F O D X : Nat} {room next : Int} {nf no nd nx m : Nat} {ff oo dd xx : DataW Value} {chg : Value} {xs : List Value} (h : DkS n0 w d F O D X room next nf no nd nx m ff oo dd xx chg xs) (hb : Below w.heap.size w w') : DkS n0 w' d F O D X room next nf no nd nx m ff oo dd xx chg xs :=
  h.grow (Grow.fromB hb) (fun e => e) (fun e => e) (fun e => e) (fun e => e) (fun e => e) (fun _ _ e => e)
set_option maxRecDepth 100000 in
set_option maxHeartbeats 8000000 in
theorem alive_any (w : World) (G : Glob w) : Calls Tryz.prog 15 #[] w fun e w' => e = .returned (.bool true) ∧ Below w.heap.size w w' := by
  have HG := Lib.hid G
  clear G
  have q1 := fun (W : World) (p : Addr) => run_eql_nil_pointer W 43 _ (some p) Tryz.underlying43
  have q2 := fun (W : World) (p : Addr) => run_eql_nil_pointer W 53 _ (some p) Tryz.underlying53
  have hfd : ∀ (W : World) (b : Nat), (Instr.field 66 (.agg #[.slice (some ⟨b, 0, none⟩) 1 1, .int .i64 1]) 0).run Tryz.prog W = .ok (.slice (some ⟨b, 0, none⟩) 1 1) W := fun _ _ => by kernel_rfl
  go_enter Tryz.func15, Tryz.ntmps15
  go_wp2_with fail
  refine (new_any w 100 (by decide) (by decide)).mono ?_
  rintro e w1 ⟨rfl, hn⟩
  have HD := Lib.hid (newDk_R hn)
  have HB1 := Lib.hid hn.below
  clear hn
  go_wp2_with fail
  refine (five_any w1).mono ?_
  rintro e w2 ⟨b2, -, rfl, ht2, hb2⟩
  obtain ⟨W2, hW2⟩ : ∃ W, W = w2.alloc (.cells #[.slice (some ⟨b2, 0, none⟩) 1 1, .int .i64 1] 66) := ⟨_, rfl⟩
  have he2 := five_en ht2
  have hc2 := below_new w2 (.cells #[.slice (some ⟨b2, 0, none⟩) 1 1, .int .i64 1] 66)
  rw [← hW2] at he2 hc2
  have HB2 := Lib.hid (HB1.out.trans ((hb2.trans (hc2.mono hb2.size)).mono HB1.out.size))
  have HD2 := Lib.hid (HD.out.belowB (hb2.trans (hc2.mono hb2.size)))
  have HBy := Lib.hid (runBytes_any _ E5 W2 he2 (by decide) five_kin (HG.out.below HB2.out))
  clear ht2 hb2 he2 hc2
  go_wp2_with fail
  rw [← hW2]
  clear hW2
  refine HBy.out.mono ?_
  rintro e w3 ⟨⟨-, v3, rfl, ho3⟩ | ⟨hno, -⟩, hb3⟩
  rotate_left
  · exact absurd five_run hno
  obtain ⟨q3, d3, rfl⟩ := ho3.in_.shape
  have HB3 := Lib.hid (HB2.out.trans (hb3.mono HB2.out.size))
  have HD3 := Lib.hid (HD2.out.belowB hb3)
  obtain ⟨m3, hm3⟩ : ∃ m, m = (runL E5).length := ⟨_, rfl⟩
  have h3 : (0 : Int) < (m3 : Int) := by have := runL_long E5; omega
  have h3' : 0 < m3 := by omega
  have h3'' : ¬ m3 = 0 := by omega
  rw [← hm3]
  clear ho3 hb3 hm3 HBy
  go_wp2_with fail
  refine (five_any w3).mono ?_
  rintro e w4 ⟨b4, -, rfl, ht4, hb4⟩
  obtain ⟨W4, hW4⟩ : ∃ W, W = w4.alloc (.cells #[.slice (some ⟨b4, 0, none⟩) 1 1, .int .i64 1] 66) := ⟨_, rfl⟩
  have he4 := five_en ht4
  have hc4 := below_new w4 (.cells #[.slice (some ⟨b4, 0, none⟩) 1 1, .int .i64 1] 66)
  rw [← hW4] at he4 hc4
  have HB4 := Lib.hid (HB3.out.trans ((hb4.trans (hc4.mono hb4.size)).mono HB3.out.size))
  have HD4 := HD3.out.belowB (hb4.trans (hc4.mono hb4.size))
  have HWr := Lib.hid (rwrite_any _ E5 ⟨#[114]⟩ HD4 (by have := five_len; omega) he4 (by decide) five_kin five_run (by have := five_len; omega) ⟨by decide, by decide⟩ (HG.out.below HB4.out))
  clear ht4 hb4 he4 hc4 HD4
  go_wp2_with fail
  rw [← hW4]
  clear hW4
  refine HWr.out.mono ?_
  rintro e w5 ⟨rfl, Y, hfl, hY, hb5⟩
  have HB5 := Lib.hid (HB4.out.trans hb5)
  have HFl := Lib.hid hfl
  have HOp := Lib.hid (runOpen_any w5 ⟨#[114]⟩ E5 hfl (by decide) (by decide) five_kin five_run (by have := five_len; omega) (HG.out.below HB5.out))
  clear hfl hY hb5 HWr
  go_wp2_with fail
  refine HOp.out.mono ?_
  rintro e w6 ⟨r, rfl, hr6, hb6⟩
  have HB6 := Lib.hid (HB5.out.trans (hb6.mono HB5.out.size))
  have HFl6 := Lib.hid (HFl.out.below hb6)
  have HR6 := Lib.hid hr6
  have HLen := Lib.hid (rlen_yes hr6)
  rw [five_pages] at HLen
  clear hr6 hb6 HOp
  go_wp2_with fail
  refine HLen.out.mono ?_
  rintro e w7 ⟨rfl, hb7⟩
  have HB7 := Lib.hid (HB6.out.trans (hb7.mono HB6.out.size))
  have HFl7 := Lib.hid (HFl6.out.below hb7)
  have HR7 := Lib.hid (HR6.out.below hb7)
  have HPage := Lib.hid (rpage_yes w7 ⟨#[114]⟩ E5 0 HR7.out HFl7.out (by decide) (by decide) five_kin five_run (by have := five_len; omega) (by rw [five_pages]; decide) (HG.out.below HB7.out))
  simp only [five_pages, List.getElem_cons_zero] at HPage
  simp only [List.length_singleton, show E5.length = 1 from rfl]
  clear hb7 HLen
  go_wp2_with fail
  refine HPage.out.mono ?_
  rintro e w8 ⟨v8, R8, rfl, ho8, hm8, hb8⟩
  obtain ⟨q8, d8, rfl⟩ := ho8.shape
  have HB8 := Lib.hid (HB7.out.trans (hb8.mono HB7.out.size))
  have HR8 := Lib.hid (HR7.out.below hb8)
  have HO8 := Lib.hid (And.intro ho8 hm8)
  obtain ⟨m8, hm8'⟩ : ∃ m, m = R8.length := ⟨_, rfl⟩
  have HM8 := Lib.hid hm8'
  rw [← hm8'] at HO8 ⊢
  clear ho8 hm8 hb8 HPage hm8'
  go_wp2_with fail
  refine (five_any w8).mono ?_
  rintro e w9 ⟨b9, -, rfl, ht9, hb9⟩
  obtain ⟨W9, hW9⟩ : ∃ W, W = w9.alloc (.cells #[.slice (some ⟨b9, 0, none⟩) 1 1, .int .i64 1] 66) := ⟨_, rfl⟩
  have he9 := five_en ht9
  have hc9 := below_new w9 (.cells #[.slice (some ⟨b9, 0, none⟩) 1 1, .int .i64 1] 66)
  rw [← hW9] at he9 hc9
  have hbb9 := hb9.trans (hc9.mono hb9.size)
  have HB9 := Lib.hid (HB8.out.trans (hbb9.mono HB8.out.size))
  have HR9 := Lib.hid (HR8.out.below hbb9)
  have hen := (HO8.out.1.below hbb9).in_
  rw [HO8.out.2] at hen
  have HSame := Lib.hid (rsame_en _ _ E5 W9 hen he9 (by decide))
  clear ht9 hb9 he9 hc9 hbb9 hen
  go_wp2_with fail
  rw [← hW9]
  clear hW9
  refine HSame.out.mono ?_
  rintro e w10 ⟨rfl, hg10⟩
  have HB10 := Lib.hid (HB9.out.trans (hg10.below.mono HB9.out.size))
  have HR10 := Lib.hid (HR9.out.below hg10.below)
  clear hg10 HSame
  go_wp2_with fail
  refine (five_any w10).mono ?_
  rintro e w11 ⟨b11, -, rfl, ht11, hb11⟩
  have HB11 := Lib.hid (HB10.out.trans (hb11.mono HB10.out.size))
  have HFind := Lib.hid (rfind_yes (HR10.out.below hb11) _ T5 ht11 five_run (by decide))
  clear ht11 hb11
  go_wp2_with fail
  refine HFind.out.mono ?_
  rintro e w12 ⟨i, hi, rfl, hlo, hup, hb12⟩
  obtain rfl : i = 1 := by
    rw [five_pages] at hi hup
    have h0 : above [E5] T5 0 = false := by
      unfold above
      rw [show headT ([E5].getD 0 []) = T5 from rfl, cmpT_self]
      rfl
    have hi : i ≤ 1 := hi
    rcases Nat.eq_zero_or_pos i with rfl | hp
    · have := hup 0 (Nat.le_refl _) (by decide)
      rw [h0] at this
      cases this
    · omega
  have HB12 := Lib.hid (HB11.out.trans (hb12.mono HB11.out.size))
  clear hi hlo hup hb12 HFind
  go_wp2_with fail
  go_ret
  exact ⟨rfl, HB12.out⟩
end
section
open Go Go.RowKit

set_option maxRecDepth 100000 in
set_option maxHeartbeats 8000000 in
theorem lnobody_any (x : Int) (pt : Option Addr) (tl ct : Nat) (w : World) (G : Glob w) :
    Calls Tryz.prog 8 #[.int .i64 x, .slice pt tl ct] w fun e w' => e = .returned (.bool true) ∧ Below w.heap.size w w' := by
  obtain ⟨W0, hW0⟩ : ∃ W, W = w.alloc (.cells #[.pointer none, .pointer none, .string ⟨#[]⟩, .slice none 0 0, .int .i64 0] 84) := ⟨_, rfl⟩
  obtain ⟨W1, hW1⟩ : ∃ W, W = W0.alloc (.cells #[.pointer none, .pointer (some ⟨w.heap.size, 0, none⟩)] 53) := ⟨_, rfl⟩
  have hb0 : Below w.heap.size w W0 := by rw [hW0]; exact below_new w _
  have hs0 : W0.heap.size = w.heap.size + 1 := by rw [hW0]; simp
  have h0 : W0.heap[w.heap.size]? = some (.cells #[.pointer none, .pointer none, .string ⟨#[]⟩, .slice none 0 0, .int .i64 0] 84 (0, 0)) := by rw [hW0]; exact World.alloc_heap_new w _
  have hb1 : Below W0.heap.size W0 W1 := by rw [hW1]; exact below_new W0 _
  have h1 : W1.heap[W0.heap.size]? = some (.cells #[.pointer none, .pointer (some ⟨w.heap.size, 0, none⟩)] 53 (0, 0)) := by rw [hW1]; exact World.alloc_heap_new W0 _
  rw [hs0] at h1
  have hno : NoRun W1 (.pointer (some ⟨w.heap.size, 0, none⟩)) := by
    have h0' := (hb1.block _ (Array.getElem?_eq_some_iff.1 h0).1).trans h0
    exact .inr ⟨_, rfl, (Array.getElem?_eq_some_iff.1 h0').1, (cell_of_row _ w.heap.size 0 _ _ (0, 0) h0').trans rfl⟩
  have hnn : NoRun W1 (.pointer none) := .inl rfl
  obtain ⟨⟨a0, a1⟩, -⟩ := cells2R h1
  have HL := Lib.hid (Array.getElem?_eq_some_iff.1 h1).1
  have HB := Lib.hid (hb0.trans (hb1.mono hb0.size))
  have HN := Lib.hid (And.intro hnn hno)
  have HA := Lib.hid (And.intro a0 a1)
  have HG := Lib.hid G
  clear hb0 h0 hb1 h1 hno hnn a0 a1 G
  go_enter Tryz.func8, Tryz.ntmps8
  go_wp2_with fail
  rw [← hW0, ← hW1]
  clear hW0 hW1 hs0
  go_loopw [21] (fun i wr => ∃ k : Nat, k ≤ 2 ∧ i = .int .i64 k ∧ Hid (Below W1.heap.size W1 wr)) (fun i _ => 2 - (intOf i).toNat)
  case atStart => exact ⟨0, by decide, rfl, Lib.hid (Below.refl _ _)⟩
  case round =>
    obtain ⟨k, hk, rfl, HW⟩ := hrel
    obtain rfl | rfl | rfl : k = 0 ∨ k = 1 ∨ k = 2 := by omega
    · skip
      have hw := HW.out
      have HNr := Lib.hid (HN.out.1.below hw)
      have ca := (hw.cell (p := ⟨w.heap.size + 1, 0, none⟩) HL.out).trans HA.out.1
      have HF := Lib.hid (rfence_no wr (.pointer none) x HNr.out)
      clear hw
      go_wp2_with fail
      refine HF.out.mono ?_
      rintro e w2 ⟨rfl, hb2⟩
      have HW2 := Lib.hid (HW.out.trans (hb2.mono HW.out.size))
      have HN2 := Lib.hid (HNr.out.below hb2)
      have HP := Lib.hid (rpage_no w2 (.pointer none) x HN2.out)
      clear hb2 HF
      go_wp2_with fail
      refine HP.out.mono ?_
      rintro e w3 ⟨rfl, hb3⟩
      have HW3 := Lib.hid (HW2.out.trans (hb3.mono HW2.out.size))
      have HN3 := Lib.hid (HN2.out.below hb3)
      have HLe := Lib.hid (rlen_no w3 (.pointer none) HN3.out)
      have HNa := Lib.hid (rname_no w3 (.pointer none) HN3.out)
      have HFi := Lib.hid (rfind_no w3 (.pointer none) pt tl ct HN3.out)
      clear hb3 HP
      go_wp2_with fail
      refine HLe.out.mono ?_
      rintro e w4 ⟨rfl, rfl⟩
      go_wp2_with fail
      refine HNa.out.mono ?_
      rintro e w4 ⟨rfl, rfl⟩
      go_wp2_with fail
      refine HFi.out.mono ?_
      rintro e w4 ⟨rfl, hb4⟩
      have HW4 := Lib.hid (HW3.out.trans (hb4.mono HW3.out.size))
      clear hb4 HFi
      go_wp2_with fail
      go_roundw
      case rel => exact ⟨0 + 1, by omega, by simp, HW4⟩
      case measure => simp [intOf]
    · skip
      have hw := HW.out
      have HNr := Lib.hid (HN.out.2.below hw)
      have ca := (hw.cell (p := ⟨w.heap.size + 1, 1, none⟩) HL.out).trans HA.out.2
      have HF := Lib.hid (rfence_no wr (.pointer (some ⟨w.heap.size, 0, none⟩)) x HNr.out)
      clear hw
      go_wp2_with fail
      refine HF.out.mono ?_
      rintro e w2 ⟨rfl, hb2⟩
      have HW2 := Lib.hid (HW.out.trans (hb2.mono HW.out.size))
      have HN2 := Lib.hid (HNr.out.below hb2)
      have HP := Lib.hid (rpage_no w2 (.pointer (some ⟨w.heap.size, 0, none⟩)) x HN2.out)
      clear hb2 HF
      go_wp2_with fail
      refine HP.out.mono ?_
      rintro e w3 ⟨rfl, hb3⟩
      have HW3 := Lib.hid (HW2.out.trans (hb3.mono HW2.out.size))
      have HN3 := Lib.hid (HN2.out.below hb3)
      have HLe := Lib.hid (rlen_no w3 (.pointer (some ⟨w.heap.size, 0, none⟩)) HN3.out)
      have HNa := Lib.hid (rname_no w3 (.pointer (some ⟨w.heap.size, 0, none⟩)) HN3.out)
      have HFi := Lib.hid (rfind_no w3 (.pointer (some ⟨w.heap.size, 0, none⟩)) pt tl ct HN3.out)
      clear hb3 HP
      go_wp2_with fail
      refine HLe.out.mono ?_
      rintro e w4 ⟨rfl, rfl⟩
      go_wp2_with fail
      refine HNa.out.mono ?_
      rintro e w4 ⟨rfl, rfl⟩
      go_wp2_with fail
      refine HFi.out.mono ?_
      rintro e w4 ⟨rfl, hb4⟩
      have HW4 := Lib.hid (HW3.out.trans (hb4.mono HW3.out.size))
      clear hb4 HFi
      go_wp2_with fail
      go_roundw
      case rel => exact ⟨1 + 1, by omega, by simp, HW4⟩
      case measure => simp [intOf]
    · have HW0 := Lib.hid (HB.out.trans (HW.out.mono HB.out.size))
      have HO := Lib.hid (ropen_no ⟨#[114]⟩ wr)
      clear HW
      go_wp2_with fail
      refine HO.out.mono ?_
      rintro e w2 ⟨rfl, hb2⟩
      have HW2 := Lib.hid (HW0.out.trans (hb2.mono HW0.out.size))
      have HWr := Lib.hid (rwrite_no ⟨#[114]⟩ w2 (HG.out.below HW2.out))
      clear hb2 HO
      go_wp2_with fail
      refine HWr.out.mono ?_
      rintro e w3 ⟨rfl, hb3⟩
      have HW3 := Lib.hid (HW2.out.trans (hb3.mono HW2.out.size))
      have HAl := Lib.hid (alive_any w3 (HG.out.below HW3.out))
      clear hb3 HWr
      go_wp2_with fail
      refine HAl.out.mono ?_
      rintro e w4 ⟨rfl, hb4⟩
      have HW4 := Lib.hid (HW3.out.trans (hb4.mono HW3.out.size))
      clear hb4 HAl
      go_wp2_with fail
      go_ret
      exact ⟨rfl, HW4.out⟩
end
section
open Go Go.ChangeShapes Go.WideShapes Go.ChangeAt Go.RowKit Go.Deep

set_option maxRecDepth 100000
theorem tyTab : (Tryz.prog.globals[0]?).map (·.type) = some 260 := by kernel_rfl
theorem cellsTab : Tryz.prog.cellsOf 260 = 16 := by kernel_rfl
theorem cellsU32 : Tryz.prog.cellsOf 69 = 1 := by kernel_rfl
/-- What every row of these laws lists. -/
def laid4 {H : Type} : List (String × DataW H) := [("pedigree/crc.nibbles", Rows.laid_pedigree_crc_nibbles)]
theorem glob_of_laid {W : World} (h0 : laidMetH Tryz.prog laid4 W) : Glob W := by
  rw [MakeChecks.laidMetH_plain _ _ _ (by kernel_rfl)] at h0
  have tab := Lib.tabIs_of_head (k := .u32) (zs := nibL.map Int.ofNat) gTab tyTab Tryz.underlying260 Tryz.underlying69 cellsU32 cellsTab h0
  refine ⟨tab, ?_⟩
  unfold Lib.TabIs World.var? at tab
  rw [gTab] at tab
  simp only [Option.bind_some] at tab
  rcases Nat.lt_or_ge 0 W.heap.size with hl | hl
  · exact hl
  · rw [Array.getElem?_eq_none hl] at tab
    cases tab
/-- The door's own heap meets the condition. -/
theorem door_met (os : Os) (args : Array Value) : laidMetH Tryz.prog laid4 ((World.doorLaid Tryz.prog 400 os).forCall (fun _ _ => 0) ⟨#[], args, []⟩).memory :=
  laidMetH_of_parts3 (fuel := 8) (laidMet_of_run' 8 (by kernel_rfl) (by kernel_rfl)) (by kernel_rfl) (by kernel_rfl)

end
end Go.Proofs.YtdjhfcopnhcljaaGreatDoor
