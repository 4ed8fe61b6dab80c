/-
  A disk that was made, with no fuse: made, Down, ready, done; valid; directory.do.
-/
import Derived.Test.YtnmeehhjfcciiaaDkE
import Derived.Deep.AppendLies
import Derived.Maps.AppendAt
import Derived.StringKeys
namespace Go.Proofs.Ytnmeehhjfcciiaa
open Go Go.RowKit Go.Maps Go.WideMaps

/-- A disk without a fuse, at d. -/
def DkOn (w : World) (d : Nat) (room next : Int) (F O D X : Nat) (chg : Value) : Prop := DkAt w d room next F O D X chg false 0
section
variable {w : World} {d F O D X : Nat} {room next : Int} {chg : Value}
theorem DkOn.lt (h : DkOn w d room next F O D X chg) : d < w.heap.size := (Array.getElem?_eq_some_iff.1 h).1
theorem DkOn.cells (h : DkOn w d room next F O D X chg) : w.cell? ⟨d, 0, none⟩ = some (.pointer (some ⟨d, 0, none⟩)) ∧ w.cell? ⟨d, 1, none⟩ = some (.int .i64 room) ∧ w.cell? ⟨d, 2, none⟩ = some (.int .i64 next) ∧ w.cell? ⟨d, 3, none⟩ = some (.map (some F)) ∧ w.cell? ⟨d, 4, none⟩ = some (.map (some O)) ∧ w.cell? ⟨d, 5, none⟩ = some (.map (some D)) ∧ w.cell? ⟨d, 6, none⟩ = some (.map (some X)) ∧ w.cell? ⟨d, 7, none⟩ = some chg ∧ w.cell? ⟨d, 8, none⟩ = some (.bool false) ∧ w.cell? ⟨d, 9, none⟩ = some (.int .i64 0) := by
  refine ⟨?_, ?_, ?_, ?_, ?_, ?_, ?_, ?_, ?_, ?_⟩ <;> exact (cell_of_row w d _ _ _ (0, 0) h).trans (by simp)
theorem DkOn.loose (h : DkOn w d room next F O D X chg) (i : Nat) : w.frozen? ⟨d, i, none⟩ = false := frozen_of_row w d i _ _ h
theorem DkOn.kept {w' : World} {row : Option Nat} (h : DkOn w d room next F O D X chg) (hg : w.grownBy w' row) (hne : some d ≠ row) : DkOn w' d room next F O D X chg := (hg.block d h.lt hne).trans h
theorem DkOn.below {w' : World} {n : Nat} (h : DkOn w d room next F O D X chg) (hb : Below n w w') (hl : d < n) : DkOn w' d room next F O D X chg := (hb.block d hl).trans h
end
theorem infoDk : (Try.prog.info? 65).isSome = true := by kernel_rfl
set_option maxRecDepth 100000 in
theorem made_yes {w : World} {d F O D X : Nat} {room next : Int} {chg : Value} (h : DkOn w d room next F O D X chg) : Says 32 #[.pointer (some ⟨d, 0, none⟩)] w (.bool true) := by
  obtain ⟨c0, -⟩ := h.cells
  obtain ⟨j, hj⟩ := Option.isSome_iff_exists.1 infoDk
  have q := fun W : World => run_eql_ptr_same W ⟨d, 0, none⟩ Try.underlying30 hj
  go_enter Try.func32, Try.ntmps32
  go_wp2_with fail
  go_ret
  exact ⟨rfl, rfl⟩
set_option maxRecDepth 100000 in
theorem down_off {w : World} {d F O D X : Nat} {room next : Int} {chg : Value} (h : DkOn w d room next F O D X chg) : Says 43 #[.pointer (some ⟨d, 0, none⟩)] w (.bool false) := by
  have HM := Lib.hid (made_yes h)
  obtain ⟨-, -, -, -, -, -, -, -, c8, -⟩ := h.cells
  clear h
  go_enter Try.func43, Try.ntmps43
  go_wp2_with fail
  refine HM.out.mono ?_
  rintro e w1 ⟨rfl, rfl⟩
  go_wp2_with fail
  go_ret
  exact ⟨rfl, rfl⟩
set_option maxRecDepth 100000 in
theorem ready_ok {w : World} {d F O D X : Nat} {room next : Int} {chg : Value} (h : DkOn w d room next F O D X chg) : Says 21 #[.pointer (some ⟨d, 0, none⟩)] w (.int .i64 0) := by
  have HM := Lib.hid (made_yes h)
  have HD := Lib.hid (down_off h)
  clear h
  go_enter Try.func21, Try.ntmps21
  go_wp2_with fail
  refine HM.out.mono ?_
  rintro e w1 ⟨rfl, rfl⟩
  go_wp2_with fail
  refine HD.out.mono ?_
  rintro e w1 ⟨rfl, rfl⟩
  go_wp2_with fail
  go_ret
  exact ⟨rfl, rfl⟩
set_option maxRecDepth 100000 in
theorem done_ok {w : World} {d F O D X : Nat} {room next : Int} {chg : Value} (h : DkOn w d room next F O D X chg) : Says 24 #[.pointer (some ⟨d, 0, none⟩)] w (.int .i64 0) := by
  obtain ⟨-, -, -, -, -, -, -, -, c8, -⟩ := h.cells
  clear h
  go_enter Try.func24, Try.ntmps24
  go_wp2_with fail
  go_ret
  exact ⟨rfl, rfl⟩
set_option maxRecDepth 100000 in
theorem valid_ok (w : World) (s : ByteArray) (h1 : 1 ≤ s.size) (h2 : s.size ≤ 64) : Says 22 #[.string s] w (.bool true) := by
  have h1' : (1 : Int) ≤ (s.size : Int) := by omega
  have h2' : (s.size : Int) ≤ 64 := by omega
  go_enter Try.func22, Try.ntmps22
  go_wp2_with fail
  go_ret
  exact ⟨rfl, rfl⟩
theorem keyS : Keyed Try.prog 9 := string_keyed Try.underlying9
theorem keyI : Keyed Try.prog 3 := int_keyed Try.underlying3
theorem zeroI (w : World) : (zeroValue 3).run Try.prog w = .ok (.int .i64 0) w := by kernel_rfl
theorem zeroF (w : World) : (zeroValue 66).run Try.prog w = .ok (.pointer none) w := by kernel_rfl
/-- A directory behind a change. -/
def doD (D : DataW Value) (a b : ByteArray) (file : Int) : DataW Value := (D.del (.string a.data.toList)).put (.string b.data.toList) (.held (.int .i64 file))
set_option maxRecDepth 100000 in
theorem do_any (w : World) (b n : Nat) (D : DataW Value) (a c : ByteArray) (file : Int) (h : MapAt w Try.prog 9 b n D) (hn : n < maxLen) (ha : a.size ≤ maxLen) (hc : c.size ≤ maxLen) (hne : c.toList.isEmpty = false) :
    Calls Try.prog 44 #[.map (some b), .agg #[.string a, .string c, .int .i64 file]] w fun e w' => e = .returned (.tuple #[]) ∧ MapAt w' Try.prog 9 b (n + 1) (doD D a c file) ∧ w.grownBy w' (some b) := by
  have HM := Lib.hid (h.alloc (.cells #[.string a, .string c, .int .i64 file] 72))
  have hlt := h.lt
  have ka := keyOf_string_mk (P := Try.prog) Try.underlying9 ha
  have kc := keyOf_string_mk (P := Try.prog) Try.underlying9 hc
  have KA := Lib.hid ka
  have KC := Lib.hid kc
  have HN := Lib.hid hn
  have HG := Lib.hid (World.grownBy_alloc w (.cells #[.string a, .string c, .int .i64 file] 72) (some b))
  clear h ka kc hn
  go_enter Try.func44, Try.ntmps44
  go_wp2_with (first
    | (at_delete; refine wpList_delete_own _ rfl _ _ 62 9 rfl 3 keyS Try.underlying62 heldE b n D rfl HM.out _ _ rfl KA.out ?_; intro w1 hown1 hturn1
       have H1 := Lib.hid hown1
       have G1 := Lib.hid hturn1.grown
       have c1 : w1.cell? ⟨w.heap.size, 1, none⟩ = some (.string c) := hturn1.grown.cell (by simp) (by simp; omega)
       have c2 : w1.cell? ⟨w.heap.size, 2, none⟩ = some (.int .i64 file) := hturn1.grown.cell (by simp) (by simp; omega)
       clear hown1 hturn1)
    | (at_mapUpdate; refine wpList_store_any _ rfl _ _ _ 62 rfl 9 3 keyS Try.underlying62 b n _ rfl H1.out HN.out _ _ _ rfl rfl KC.out ?_; intro w2 hown2 hgrow2
       have H2 := Lib.hid hown2
       have G2 := Lib.hid hgrow2
       clear hown2 hgrow2))
  exact bodyPost_end (results_none rfl _ _ _) rfl ⟨rfl, H2.out, (HG.out.trans G1.out).trans G2.out⟩
end Go.Proofs.Ytnmeehhjfcciiaa
