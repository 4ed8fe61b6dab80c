/-
  Disk.find, sectors.
  Disk.Used, where one file has a name.
  Keys of sectors; cut and slices.Clone at no bytes.
-/
import Derived.Test.YtdjhfcopnhcljaaGreatDoorW31
import Derived.Deep.QuietTactic
import Derived.Sort.MapsRangeIn
import Derived.DeepKeys4
namespace Go.Proofs.YtdjhfcopnhcljaaGreatDoor
section
open Go Go.RowKit Go.Maps Go.WideMaps

set_option maxRecDepth 100000 in
theorem sectors_any (w : World) (n : Nat) (h : n ≤ 4194304) : Says 124 #[.int .i64 (n : Int)] w (.int .i64 (((n + 63) / 64 : Nat) : Int)) := by
  have h' : (n : Int) ≤ 4194304 := by omega
  have h0 : (0 : Int) ≤ (n : Int) := by omega
  go_enter Tryz.func124, Tryz.ntmps124
  go_wp2_with fail
  go_ret
  refine ⟨?_, rfl⟩
  show Ending.returned (.int .i64 (((n : Int) + 64 - 1) / 64)) = _
  rw [show ((n : Int) + 64 - 1) / 64 = (((n + 63) / 64 : Nat) : Int) by omega]
set_option maxRecDepth 100000 in
/-- What find answers: a file that is there. -/
theorem find_any {n0 : Nat} {w : World} {d F O D X : Nat} {room next : Int} {nf no nd nx m : Nat} {ff oo dd xx : DataW Value} {chg : Value} {xs : List Value} (s : ByteArray) (i : Int) (p : Value)
    (h : DkS n0 w d F O D X room next nf no nd nx m ff oo dd xx chg xs) (hs : s.size ≤ maxLen) (hi : (Lit.int .i64 i).wf = true) (hd : dd.atKey (.string s.data.toList) (.held (.int .i64 0)) = .held (.int .i64 i)) (hh : Maps.has dd (.string s.data.toList) = true) (hf : ff.atKey (.int .i64 i) (.held (.pointer none)) = .held p) :
    Calls Tryz.prog 122 #[.pointer (some ⟨d, 0, none⟩), .string s] w fun e w' => e = .returned (.tuple #[.int .i64 i, p, .bool true]) ∧ Grow (fun _ => False) w w' := by
  have HS := Lib.hid h
  have ks := Lib.hid (keyOf_string_mk (P := Tryz.prog) Tryz.underlying9 hs)
  have ki := Lib.hid (keyOf_int_mk (P := Tryz.prog) Tryz.underlying3 hi)
  obtain ⟨v, ps, hrun, hu⟩ := World.ownsMap.lookup (w := w.drew) (show w.drew.ownsMap Tryz.prog 3 heldE F nf ff from h.files) dKeyI Tryz.underlying126 (zeroF _) (zd := .held (.pointer none)) (zp := []) rfl ki.out
  obtain rfl : v = p := by
    have := heldE_inv hu
    rw [hf] at this
    injection this with this _
    injection this with this
    exact this.symm
  have hl : d < w.heap.size := h.on.lt
  obtain ⟨-, -, -, c3, -, c5, -, -, -, -⟩ := h.on.cells
  have HD := Lib.hid hd
  have HH := Lib.hid hh
  clear h hs hi hd hh hf hu
  go_enter Tryz.func122, Tryz.ntmps122
  go_wp2_with (at_lookup; refine wpList_lookup_ok_any _ rfl _ _ 129 rfl 9 3 dKeyS Tryz.underlying129 (.int .i64 0) (.int .i64 i) (zeroI _) D nd dd rfl HS.out.dir _ _ rfl ks.out HD.out true HH.out ?_)
  go_region_held3 (fun W => W.cell? ⟨d, 3, none⟩ = some (.map (some F))) (exact c3) (fail)
  go_wp2_with fail
  go_ret3
  exact ⟨rfl, (Grow.refl _ w).drew⟩
end
section
open Go Go.RowKit Go.Maps Go.WideMaps

/-- A file's cells. -/
def FileAt (w : World) (g : Nat) (b : Value) (fixed : Int) (wr : Value) : Prop := w.heap[g]? = some (.cells #[b, .int .i64 fixed, wr] 135 (0, 0))
theorem FileAt.cells {w : World} {g : Nat} {b wr : Value} {fixed : Int} (h : FileAt w g b fixed wr) : w.cell? ⟨g, 0, none⟩ = some b ∧ w.cell? ⟨g, 1, none⟩ = some (.int .i64 fixed) ∧ w.cell? ⟨g, 2, none⟩ = some wr := by
  refine ⟨?_, ?_, ?_⟩ <;> exact (cell_of_row w g _ _ _ (0, 0) h).trans (by simp)
theorem FileAt.grow {S : Nat → Prop} {w w' : World} {g : Nat} {b wr : Value} {fixed : Int} (h : FileAt w g b fixed wr) (hg : Grow S w w') (hn : ¬ S g) : FileAt w' g b fixed wr := (hg.block g (Array.getElem?_eq_some_iff.1 h).1 hn).trans h
theorem Grow.grownNew {S : Nat → Prop} {w wr w1 : World} {r : Nat} (h : Grow S w wr) (hg : wr.grownBy w1 (some r)) (hr : w.heap.size ≤ r) : Grow S w w1 :=
  ⟨hg.os.trans h.os, hg.tape.trans h.tape, hg.output.trans h.output, Nat.le_trans h.size hg.size, fun k hk hn => (hg.block k (by have := h.size; omega) (by intro e; have := Option.some.inj e; omega)).trans (h.block k hk hn)⟩
theorem Grow.thenNew {S T : Nat → Prop} {a b c : World} (h : Grow S a b) (k : Grow T b c) (hT : ∀ i, i < a.heap.size → ¬ T i) : Grow S a c :=
  ⟨k.os.trans h.os, k.tape.trans h.tape, k.output.trans h.output, Nat.le_trans h.size k.size, fun i hi hn => (k.block i (by have := h.size; omega) (hT i hi)).trans (h.block i hi hn)⟩
/-- A map of one entry. -/
def oneM (k : Lit) (v : Value) : DataW Value := .map [(k, .held v)]
theorem oneM_size (k : Lit) (v : Value) : Maps.size (oneM k v) = 1 := rfl
theorem oneM_has {k : Lit} {v : Value} {x : Lit} : Maps.has (oneM k v) x = k.sameKey x := by simp [oneM, Maps.has]
theorem oneM_at {k : Lit} {v : Value} {x : Lit} (z : DataW Value) (h : k.sameKey x = true) : (oneM k v).atKey x z = .held v := by simp [oneM, DataW.atKey, h]
/-- What of a range over one entry is done. -/
def OneR (k : Lit) (v : Value) (left : Lit → Bool) (x S : Nat) : Prop := (left = Maps.has (oneM k v) ∧ x = 0) ∨ ((∀ z, left z = false) ∧ x = S)
theorem oneR_end {k : Lit} {v : Value} {left : Lit → Bool} {x S : Nat} (h : OneR k v left x S) (hk : k.sameKey k = true) (h0 : ∀ z, left z = false) : x = S := by
  rcases h with ⟨h1, -⟩ | ⟨-, h1⟩
  · have := h0 k
    rw [h1, oneM_has, hk] at this
    cases this
  · exact h1
theorem oneR_step {k kl : Lit} {v c : Value} {left : Lit → Bool} {x S : Nat} {y : DataW Value × List MemPlace} (h : OneR k v left x S) (hl : left kl = true) (hv : heldE c = some y) (hat : ∀ zd, (oneM k v).atKey kl zd = y.1) (hsym : ∀ z, k.sameKey kl = true → k.sameKey z = true → z.sameKey kl = true) : x = 0 ∧ c = v ∧ OneR k v (fun z => left z && !z.sameKey kl) S S := by
  rcases h with ⟨rfl, rfl⟩ | ⟨h1, -⟩
  · have hk : k.sameKey kl = true := by rw [← oneM_has (v := v)]; exact hl
    have h2 := hat (.held v)
    rw [oneM_at _ hk, heldE_inv hv] at h2
    injection h2 with h2
    refine ⟨rfl, h2.symm, .inr ⟨fun z => ?_, rfl⟩⟩
    show (Maps.has (oneM k v) z && !z.sameKey kl) = false
    rw [oneM_has]
    cases e : k.sameKey z with
    | false => rfl
    | true => rw [hsym z hk e]; rfl
  · rw [h1 kl] at hl
    cases hl
theorem sym_str (s : List UInt8) : (Lit.string s).sameKey (.string s) = true := by simp [Lit.sameKey]
theorem sym_str2 (s : List UInt8) (kl : Lit) : ∀ z, (Lit.string s).sameKey kl = true → (Lit.string s).sameKey z = true → z.sameKey kl = true := by
  intro z h1 h2
  cases kl with
  | string a =>
    cases z with
    | string b =>
      simp [Lit.sameKey] at h1 h2 ⊢
      rw [← h1, ← h2]
    | _ => simp [Lit.sameKey] at h2
  | _ => simp [Lit.sameKey] at h1
theorem sym_int (q : IntKind) (n : Int) : (Lit.int q n).sameKey (.int q n) = true := by simp [Lit.sameKey]
theorem sym_int2 (q : IntKind) (n : Int) (kl : Lit) : ∀ z, (Lit.int q n).sameKey kl = true → (Lit.int q n).sameKey z = true → z.sameKey kl = true := by
  intro z h1 h2
  cases kl with
  | int q' a =>
    cases z with
    | int q2 b =>
      simp [Lit.sameKey] at h1 h2 ⊢
      exact ⟨h2.1.symm.trans h1.1, h2.2.symm.trans h1.2⟩
    | _ => simp [Lit.sameKey] at h2
  | _ => simp [Lit.sameKey] at h1
set_option maxRecDepth 100000 in
set_option maxHeartbeats 2000000 in
theorem used_one {n0 : Nat} {w : World} {d F O D X g L cap : Nat} {room next fixed : Int} {nf no nd nx m : Nat} {ff oo xx : DataW Value} {chg wrn : Value} {p : Option Addr} {xs : List Value} {s : List UInt8}
    (h : DkS n0 w d F O D X room next nf no nd nx m ff oo (oneM (.string s) (.int .i64 0)) xx chg xs) (hf : ff.atKey (.int .i64 0) (.held (.pointer none)) = .held (.pointer (some ⟨g, 0, none⟩))) (hg : FileAt w g (.slice p L cap) fixed wrn) (hL : L ≤ 1048576) :
    Calls Tryz.prog 123 #[.pointer (some ⟨d, 0, none⟩)] w fun e w' => e = .returned (.tuple #[.int .i64 (((L + 63) / 64 : Nat) : Int), .int .i64 room]) ∧ Grow (fun _ => False) w w' := by
  have HM := Lib.hid (made_yes h.on)
  have HS := Lib.hid h
  have HFi := Lib.hid hg
  have HAt := Lib.hid hf
  have hl : d < w.heap.size := h.on.lt
  obtain ⟨-, -, -, -, -, c5, -, -, -, -⟩ := h.on.cells
  have hL' : (L : Int) ≤ 1048576 := by omega
  clear h hg hf
  go_enter Tryz.func123, Tryz.ntmps123
  go_wp2_with fail
  refine HM.out.mono ?_
  rintro e w1 ⟨rfl, rfl⟩
  go_wp2_with (at_range; refine wpList_range_own _ rfl _ 129 rfl 9 3 dKeyS Tryz.underlying129 heldE D nd _ rfl HS.out.dir ?_; intro w0 hrg0 hg0 hs0)
  have HRg := Lib.hid hrg0
  have HG0 := Lib.hid (show Grow (fun _ => False) w w0 from Grow.of_grown hg0 (fun k e _ => by cases e))
  clear hrg0 hg0 c5
  go_frame
  go_loopw [4] (fun u wr => ∃ (left : Lit → Bool) (cnt x : Nat), u = .int .i64 x ∧ Hid (wr.ranges Tryz.prog 9 heldE D w.heap.size nd (oneM (.string s) (.int .i64 0)) left cnt ∧ Grow (fun _ => False) w wr ∧ OneR (.string s) (.int .i64 0) left x ((L + 63) / 64))) (fun _ wr => wr.rangeLeft D w.heap.size)
  case atStart => exact ⟨_, _, 0, rfl, Lib.hid ⟨HRg.out, HG0.out, .inl ⟨rfl, rfl⟩⟩⟩
  case round =>
    obtain ⟨left, cnt, x, rfl, hJ⟩ := hrel
    have hrg := Lib.hid hJ.out.1
    go_wp2_with (at_next; refine wpList_next_ranges _ rfl _ rfl 9 dKeyS heldE Value.string (fun v : Value => v) (fun key kl hk => Maps.keyOf_string_inv Tryz.underlying9 hk) (fun v y _ => ⟨v, rfl⟩) D w.heap.size nd _ _ _ rfl hrg.out ?_ ?_)
    · intro _ hl0
      have hx := oneR_end hJ.out.2.2 (sym_str s) hl0
      subst hx
      obtain ⟨-, c1, -⟩ := (HS.out.on.grow hJ.out.2.1 (fun e => e)).cells
      have hlr : d < wr.heap.size := Nat.lt_of_lt_of_le hl hJ.out.2.1.size
      clear hl0
      go_wp2_with fail
      go_region_held3 (fun W => W.cell? ⟨d, 1, none⟩ = some (.int .i64 room)) (exact c1) (fail)
      go_wp2_with fail
      go_ret2
      exact ⟨rfl, hJ.out.2.1.drew⟩
    · intro kx c kl yd yp w1 cnt1 hkey hlk hv hat hrg1 hlt hg1 hs1 hen
      obtain ⟨rfl, rfl, hO⟩ := oneR_step hJ.out.2.2 hlk hv hat (sym_str2 s kl)
      have HO := Lib.hid hO
      have HRg1 := Lib.hid hrg1
      have HG1 := Lib.hid (hJ.out.2.1.grownNew hg1 (Nat.le_refl _))
      have HLt := Lib.hid hlt
      have HFm := Lib.hid (HS.out.files.grow HG1.out (fun e => e))
      obtain ⟨-, -, -, c3, -, -, -, -, -, -⟩ := (HS.out.on.grow HG1.out (fun e => e)).cells
      obtain ⟨b0, -, -⟩ := (HFi.out.grow HG1.out (fun e => e)).cells
      have hl1 : d < w1.heap.size := Nat.lt_of_lt_of_le hl HG1.out.size
      have ki0 := Lib.hid (keyOf_int_mk (P := Tryz.prog) Tryz.underlying3 (q := .i64) (a := 0) (by decide))
      have HSe := Lib.hid (sectors_any w1 L (by omega))
      clear hkey hlk hv hat hrg1 hlt hg1 hs1 hO
      go_wp2_with (at_lookup; refine wpList_lookup_any _ rfl _ _ 126 rfl 3 133 dKeyI Tryz.underlying126 (.pointer none) (.pointer (some ⟨g, 0, none⟩)) (zeroF _) F nf ff rfl HFm.out _ _ rfl ki0.out HAt.out ?_)
      refine HSe.out.mono ?_
      rintro e w2 ⟨rfl, rfl⟩
      go_wp2_with fail
      go_roundw
      case rel => exact ⟨_, cnt1, (L + 63) / 64, by go_num, Lib.hid ⟨HRg1.out, HG1.out, HO.out⟩⟩
      case measure => rw [HRg1.out.left_eq, hrg.out.left_eq]; exact HLt.out
end
section
open Go Go.RowKit Go.Maps Go.WideMaps

def spotK (f i : Int) : Lit := .string (keyBytes [.int .i64 f, .int .i64 i])
theorem spotRow : (225 : TypeId) < Tryz.prog.types.size := of_decide_eq_true (by kernel_rfl)
theorem spotWide : (match Tryz.prog.underlying 225 with | some (.array _ _) | some (.struct _) => true | _ => false) = true := by rw [Tryz.underlying225]
theorem laidOutK : laidOutB Tryz.prog = true := by kernel_rfl
set_option maxRecDepth 100000 in
theorem keySp : Keyed Tryz.prog 225 := Keyed.of_law (deep_law_laid laidOutK (m := 2) (by omega) spotRow (by kernel_rfl) spotWide)
theorem zeroB (w : World) : (zeroValue 24).run Tryz.prog w = .ok (.slice none 0 0) w := by kernel_rfl
theorem keyOf_spot0 : keyOf Tryz.prog 225 (.agg #[.int .i64 0, .int .i64 0]) = some (spotK 0 0) := by kernel_rfl
theorem keyOf_spot1 : keyOf Tryz.prog 225 (.agg #[.int .i64 0, .int .i64 1]) = some (spotK 0 1) := by kernel_rfl
theorem spot_apart : (spotK 0 0).sameKey (spotK 0 1) = false := by kernel_rfl
set_option maxRecDepth 100000 in
theorem cut_nil (w : World) (i : Nat) (h : i ≤ 100000) : Says 158 #[.slice none 0 0, .int .i64 (i : Int)] w (.slice none 0 0) := by
  have h' : (i : Int) ≤ 100000 := by omega
  have h0 : (0 : Int) ≤ (i : Int) := by omega
  have h1 : ¬ (i : Int) * 64 < 0 := by omega
  go_enter Tryz.func158, Tryz.ntmps158
  go_wp2_with fail
  all_goals (go_ret; exact ⟨rfl, rfl⟩)
set_option maxRecDepth 100000 in
theorem cloneB_nil (w : World) : Says 131 #[.slice none 0 0] w (.slice none 0 0) := by
  have q := fun W : World => Lib.run_eql_slice_nil W 24 5 none 0 0 0 0 Tryz.underlying24
  go_enter Tryz.func131, Tryz.ntmps131
  go_wp2_with fail
  go_ret
  exact ⟨rfl, rfl⟩
end
end Go.Proofs.YtdjhfcopnhcljaaGreatDoor
