/-
  Disk.Read of the last 40 of a file's 100 bytes.
-/
import Derived.Test.YtnmeehhjfcciiaaDkY
namespace Go.Proofs.Ytnmeehhjfcciiaa
open Go Go.RowKit Go.Maps Go.WideMaps

theorem rowB {w : World} {n0 gb cap : Nat} {ys : List Value} (h : w.ownsRow n0 5 1 (.slice (some ⟨gb, 0, none⟩) 100 cap) 100 ys) : (∀ j u, ys[j]? = some u → w.cell? ⟨gb, j, none⟩ = some u) ∧ gb < w.heap.size ∧ 100 ≤ cap ∧ cap ≤ maxLen ∧ ys.length = 100 := by
  have hl := h.lt gb (by simp [Value.ownBlock])
  have add_is : ∀ j : Nat, (⟨gb, 0, none⟩ : Addr).add j = ⟨gb, j, none⟩ := fun j => by unfold Addr.add; split <;> simp_all
  have hc := World.ownsRow.cells h (g := gb) (by simp [Value.ownBlock])
  have h1 := h.1
  rcases h.2 with ⟨e, -⟩ | ⟨g, cap', cur, e, -, -, h2, h3, -⟩
  · cases e
  · injection e with _ _ e
    subst e
    exact ⟨fun j u hu => by rw [← add_is]; exact hc j u hu, hl.2, h2, h3, by omega⟩
theorem own_base {w : World} {B B' : Nat} {e : TypeId} {size : Nat} {v : Value} {n : Nat} {xs : List Value} (h : w.ownsRow B e size v n xs) (hb : B' ≤ B) : w.ownsRow B' e size v n xs := by
  refine ⟨h.1, ?_⟩
  rcases h.2 with h2 | ⟨g, cap, cur, rfl, hg, rest⟩
  · exact .inl h2
  · exact .inr ⟨g, cap, cur, rfl, Nat.le_trans hb hg, rest⟩
set_option maxRecDepth 100000 in
set_option maxHeartbeats 2000000 in
theorem read_file {n0 n1 : Nat} {w : World} {d F O D X g gb cap : Nat} {room next fixed : Int} {nf no nd nx m : Nat} {oo xx : DataW Value} {chg wrn : Value} {xs ys : List Value}
    (h : DkS n0 w d F O D X room next nf no nd nx m (oneM (.int .i64 0) (.pointer (some ⟨g, 0, none⟩))) oo (oneM (.string [97]) (.int .i64 0)) xx chg xs) (hg : FileAt w g (.slice (some ⟨gb, 0, none⟩) 100 cap) fixed wrn) (hy : w.ownsRow n1 5 1 (.slice (some ⟨gb, 0, none⟩) 100 cap) 100 ys) (hone : ∀ u ∈ ys, u.oneCell' = true) :
    Calls Try.prog 16 #[.pointer (some ⟨d, 0, none⟩), .string ⟨#[97]⟩, .int .i64 60, .int .i64 40] w fun e w' => ∃ g5 c5, e = .returned (.tuple #[.slice (some ⟨g5, 0, none⟩) 40 c5, .int .i64 0]) ∧ w'.ownsRow w.heap.size 5 1 (.slice (some ⟨g5, 0, none⟩) 40 c5) 40 ((ys.drop 60).take 40) ∧ Grow (fun _ => False) w w' := by
  have HM := Lib.hid (made_yes h.on)
  have HF := Lib.hid (find_any ⟨#[97]⟩ 0 (.pointer (some ⟨g, 0, none⟩)) h (by decide) (by decide) rfl rfl rfl)
  have HFi := Lib.hid hg
  have HY := Lib.hid hy
  have HO := Lib.hid hone
  clear h hg hy hone
  go_enter Try.func16, Try.ntmps16
  go_wp2_with fail
  refine HM.out.mono ?_
  rintro e w1 ⟨rfl, rfl⟩
  go_wp2_with fail
  refine HF.out.mono ?_
  rintro e w1 ⟨rfl, hg1⟩
  have HG1 := Lib.hid hg1
  obtain ⟨b0, -, -⟩ := (HFi.out.grow hg1 (fun e => e)).cells
  have hlg : g < w1.heap.size := (Array.getElem?_eq_some_iff.1 (HFi.out.grow hg1 (fun e => e))).1
  obtain ⟨hcell, hgb, hc1, hc2, hlen⟩ := rowB (own_grow HY.out hg1 (fun _ _ e => e))
  have HCl := Lib.hid (cloneB_row w1 gb 60 40 (cap - 60) ((ys.drop 60).take 40) (by omega) (by omega) (by rw [List.length_take, List.length_drop]; omega) (fun j u hu => hcell (60 + j) u (by rw [List.getElem?_take] at hu; split at hu; rw [List.getElem?_drop] at hu; exact hu; cases hu)) (fun u hu => HO.out u (List.mem_of_mem_drop (List.mem_of_mem_take hu))) hgb)
  unfold maxLen at hc2
  have i1 : (100 : Int) ≤ (cap : Int) := by omega
  have i2 : (cap : Int) ≤ 9223372036854775807 := by omega
  have i3 : ((cap : Int) - 60).toNat = cap - 60 := by omega
  clear hg1 hcell hlen hc1 hc2 HM HF
  go_wp2_with fail
  refine HCl.out.mono ?_
  rintro e w2 ⟨g5, c5, rfl, how, hg2⟩
  have HEnd := Lib.hid (And.intro (own_base how HG1.out.size) (HG1.out.trans hg2))
  clear how hg2
  go_wp2_with fail
  go_ret2
  exact ⟨g5, c5, rfl, HEnd.out.1, HEnd.out.2⟩
end Go.Proofs.Ytnmeehhjfcciiaa
