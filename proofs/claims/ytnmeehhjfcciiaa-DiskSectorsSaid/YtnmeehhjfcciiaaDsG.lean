/-
  Disk.SyncDir where one file has a name; Size; Read from the start.
-/
import Derived.Test.YtnmeehhjfcciiaaDsF
import Derived.Test.YtnmeehhjfcciiaaDkLo
namespace Go.Proofs.Ytnmeehhjfcciiaa
open Go Go.RowKit Go.Maps Go.WideMaps

set_option maxRecDepth 100000 in
set_option maxHeartbeats 2000000 in
theorem forget_one {n0 : Nat} {w : World} {d F O D X g : Nat} {room next : Int} {nf no nd nx m : Nat} {oo xx : DataW Value} {chg : Value} {xs : List Value} {s : List UInt8}
    (h : DkS n0 w d F O D X room next nf no nd nx m (oneM (.int .i64 0) (.pointer (some ⟨g, 0, none⟩))) oo (oneM (.string s) (.int .i64 0)) xx chg xs) :
    Calls Try.prog 31 #[.pointer (some ⟨d, 0, none⟩)] w fun e w' => e = .returned (.tuple #[]) ∧ Grow (fun _ => False) w w' := by
  have HS := Lib.hid h
  have hl : d < w.heap.size := h.on.lt
  obtain ⟨-, -, -, -, -, c5, -, -, -, -⟩ := h.on.cells
  clear h
  go_enter Try.func31, Try.ntmps31
  go_wp2_with fail
  refine (files_one HS.out.dir).mono ?_
  rintro e w1 ⟨rfl, hm, hg1⟩
  have HM := Lib.hid hm
  have HS1 := Lib.hid (HS.out.same hg1)
  have G1 := Lib.hid hg1
  obtain ⟨r, HRe⟩ : ∃ r, Hid (r = w.heap.size) := ⟨_, Lib.hid rfl⟩
  rw [← HRe.out] at HM ⊢
  have hl1 : d < w1.heap.size := HS1.out.on.lt
  obtain ⟨-, -, -, c3, -, -, -, -, -, -⟩ := HS1.out.on.cells
  clear hm hg1 c5 hl
  go_wp2_with (at_range; refine wpList_range_own _ rfl _ 59 rfl 3 66 keyI Try.underlying59 heldE F nf _ rfl HS1.out.files ?_; intro w2 hrg0 hg0 hs0)
  have HRg := Lib.hid hrg0
  have hg2 : Grow (fun _ => False) w1 w2 := Grow.of_grown hg0 (fun k e _ => by cases e)
  have HM2 := Lib.hid (HM.out.grow hg2 (fun e => e))
  have HG2 := Lib.hid (G1.out.trans hg2)
  have HIt := Lib.hid (show r < w1.heap.size ∧ F < w1.heap.size ∧ w.heap.size ≤ w1.heap.size from ⟨HM.out.lt, HS1.out.files.lt, G1.out.size⟩)
  clear hrg0 hg0 hs0 hg2 c3 hl1
  go_frame
  generalize w1.heap.size = it at *
  have ki0 := Lib.hid (keyOf_int_mk (P := Try.prog) Try.underlying3 (q := .i64) (a := 0) (by decide))
  go_loopw [17] (fun _ wr => ∃ (left : Lit → Bool) (cnt k : Nat), Hid (wr.ranges Try.prog 3 heldE F it nf (oneM (.int .i64 0) (.pointer (some ⟨g, 0, none⟩))) left cnt ∧ OneR (.int .i64 0) (.pointer (some ⟨g, 0, none⟩)) left k 1 ∧ Grow (fun _ => False) w wr ∧ MapAt wr Try.prog 3 r 1 (oneM (.int .i64 0) (.agg #[])))) (fun _ wr => wr.rangeLeft F it)
  case atStart => exact ⟨_, _, 0, Lib.hid ⟨HRg.out, .inl ⟨rfl, rfl⟩, HG2.out, HM2.out⟩⟩
  case round =>
    obtain ⟨left, cnt, k, hJ⟩ := hrel
    have hrg := Lib.hid hJ.out.1
    go_wp2_with (at_next; refine wpList_next_ranges _ rfl _ rfl 3 keyI heldE (Value.int .i64) (fun v : Value => v) (fun key kl hk => by obtain ⟨y, e1, -⟩ := Maps.keyOf_int_inv Try.underlying3 hk; exact ⟨y, e1⟩) (fun v y _ => ⟨v, rfl⟩) F it nf _ _ _ rfl hrg.out ?_ ?_)
    · intro _ hl0
      clear hl0
      go_wp2_with fail
      exact bodyPost_end (results_none rfl _ _ _) rfl ⟨rfl, hJ.out.2.2.1⟩
    · intro kx cv kl yd yp w3 cnt1 hkey hlk hv hat hrg1 hlt hg1 hs1 hen
      have hkk := oneR_key hJ.out.2.1 hlk
      obtain rfl := int_key Try.underlying3 hkey hkk
      obtain ⟨rfl, rfl, hO⟩ := oneR_step hJ.out.2.1 hlk hv hat (sym_int2 .i64 _ kl)
      have hgr1 : Grow (fun k => k = it) wr w3 := Grow.of_grown hg1 (fun k e _ => (Option.some.inj e).symm)
      have HM3 := Lib.hid (hJ.out.2.2.2.grow hgr1 (fun e => by have := HIt.out.1; omega))
      have HG3 := Lib.hid (show Grow (fun _ => False) w w3 from hJ.out.2.2.1.thenNew hgr1 (fun i hi e => by have := HIt.out; omega))
      have HO := Lib.hid hO
      have HRg1 := Lib.hid hrg1
      have HLt := Lib.hid hlt
      clear hkey hlk hv hat hrg1 hlt hg1 hs1 hO hkk hgr1
      go_wp2_with (at_lookup; refine wpList_lookup_ok_any _ rfl _ _ 86 rfl 3 103 keyI Try.underlying86 (.agg #[]) (.agg #[]) (by kernel_rfl) r 1 _ rfl HM3.out _ _ rfl ki0.out (oneM_at _ (sym_int .i64 0)) true (by rw [oneM_has]; exact sym_int .i64 0) ?_)
      have HR5 := Lib.hid (HRg1.out.alloc (.cells #[] 103))
      refine ⟨⟨_, cnt1, 1, Lib.hid ⟨HR5.out, HO.out, HG3.out.alloc _, HM3.out.alloc _⟩⟩, ?_⟩
      rw [HR5.out.left_eq, hrg.out.left_eq]
      exact HLt.out
/-- SyncDir has put the directory aside. -/
theorem sd_mid {n0 : Nat} {w w2 : World} {d F O D X X' : Nat} {room next : Int} {nf no nd nx m : Nat} {ff oo dd xx : DataW Value} {chg : Value} {xs : List Value}
    (h : DkS n0 w d F O D X room next nf no nd nx m ff oo dd xx chg xs) (hg : Grow (fun _ => False) w w2) (hm : MapAt w2 Try.prog 9 X' nd dd) (hX : w.heap.size ≤ X') (hn : n0 ≤ w.heap.size) :
    DkS n0 ((w2.setCell ⟨d, 6, none⟩ (.map (some X'))).setCell ⟨d, 7, none⟩ (.slice none 0 0)) d F O D X' room next nf no nd nd 0 ff oo dd dd (.slice none 0 0) [] ∧ Grow (fun b => b = d) w ((w2.setCell ⟨d, 6, none⟩ (.map (some X'))).setCell ⟨d, 7, none⟩ (.slice none 0 0)) := by
  have h2 := h.same hg
  have gs : Grow (fun b => b = d) w2 ((w2.setCell ⟨d, 6, none⟩ (.map (some X'))).setCell ⟨d, 7, none⟩ (.slice none 0 0)) := ((Grow.refl (fun b => b = d) w2).setCell ⟨d, 6, none⟩ _ (fun _ => rfl)).setCell ⟨d, 7, none⟩ _ (fun _ => rfl)
  obtain ⟨a1, a2, a3, a4, a5, a6, a7, a8, a9, a10⟩ := h.apart
  obtain ⟨l1, l2, l3, l4, l5⟩ := h.low
  have q1 := h.on.lt
  have q2 := h.files.lt
  have q3 := h.olds.lt
  have q4 := h.dir.lt
  refine ⟨⟨(h2.on.setFix X').setChg _, h2.files.grow gs (fun e => a1 e.symm), h2.olds.grow gs (fun e => a2 e.symm), h2.dir.grow gs (fun e => a3 e.symm), hm.grow gs (fun e => by omega), World.ownsRow_nil _ _ _ _, ?_, fun k hk => (by cases hk), ?_⟩, (hg.mono (fun _ _ e => e.elim)).trans gs⟩
  · omega
  · omega
set_option maxRecDepth 100000 in
set_option maxHeartbeats 2000000 in
theorem syncdir_any {n0 : Nat} {w : World} {d F O D X g : Nat} {room next : Int} {nf no nd nx m : Nat} {oo xx : DataW Value} {chg : Value} {xs : List Value} {s : List UInt8}
    (h : DkS n0 w d F O D X room next nf no nd nx m (oneM (.int .i64 0) (.pointer (some ⟨g, 0, none⟩))) oo (oneM (.string s) (.int .i64 0)) xx chg xs) (hn : n0 ≤ w.heap.size) :
    Calls Try.prog 9 #[.pointer (some ⟨d, 0, none⟩)] w fun e w' => e = .returned (.int .i64 0) ∧ ∃ X', w.heap.size ≤ X' ∧ DkS n0 w' d F O D X' room next nf no nd nd 0 (oneM (.int .i64 0) (.pointer (some ⟨g, 0, none⟩))) oo (oneM (.string s) (.int .i64 0)) (oneM (.string s) (.int .i64 0)) (.slice none 0 0) [] ∧ Grow (fun b => b = d) w w' := by
  have HS := Lib.hid h
  have HN := Lib.hid hn
  have hl : d < w.heap.size := h.on.lt
  obtain ⟨-, -, -, -, -, c5, -, -, -, -⟩ := h.on.cells
  clear h hn
  go_enter Try.func9, Try.ntmps9
  go_wp2_with fail
  refine (ready_ok HS.out.on).mono ?_
  rintro e w1 ⟨rfl, rfl⟩
  go_wp2_with fail
  refine (cloneD_any w D nd _ HS.out.dir).mono ?_
  rintro e w2 ⟨rfl, hm, hg2, -⟩
  have HM := Lib.hid (sd_mid HS.out hg2 hm (Nat.le_refl _) HN.out)
  have HS2 := HS.out.same hg2
  have hl2 : d < w2.heap.size := HS2.on.lt
  obtain ⟨-, -, -, -, -, -, c6, c7, -, -⟩ := HS2.on.cells
  have f6 := HS2.on.loose 6
  have f7 := HS2.on.loose 7
  clear hm hg2 HS2 c5 hl
  go_wp2_with fail
  refine (forget_one HM.out.1).mono ?_
  rintro e w3 ⟨rfl, hg3⟩
  have HE := Lib.hid (And.intro (HM.out.1.same hg3) (HM.out.2.trans (hg3.mono (T := fun b => b = d) (fun _ _ e => e.elim))))
  clear hg3 c6 c7 f6 f7 hl2
  go_wp2_with fail
  refine (done_ok HE.out.1.on).mono ?_
  rintro e w4 ⟨rfl, rfl⟩
  go_wp2_with fail
  go_ret
  exact ⟨rfl, _, Nat.le_refl _, HE.out⟩
end Go.Proofs.Ytnmeehhjfcciiaa
