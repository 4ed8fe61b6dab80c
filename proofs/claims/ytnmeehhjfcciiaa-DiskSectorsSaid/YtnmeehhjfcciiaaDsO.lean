/-
  Disk.loose at any loose sectors of file 0: each that is told is loose.
-/
import Derived.Test.YtnmeehhjfcciiaaDsN
namespace Go.Proofs.Ytnmeehhjfcciiaa
open Go Go.RowKit Go.Maps Go.WideMaps

/-- Loose sectors in a row of their own. -/
def LooseG (sf : Nat → Option (List UInt8)) (nn : Nat) (w : World) (e : Ending) (w' : World) : Prop := ∃ (v : Value) (P : List Nat), (∀ i ∈ P, (sf i).isSome = true) ∧ P.length ≤ nn ∧ e = .returned v ∧ w'.ownsRow w.heap.size 92 2 v P.length (spc P) ∧ Grow (fun _ => False) w w'
theorem grow_of_row {w w1 w2 : World} {row : Option Nat} (hb : Below w.heap.size w w1) (hg : w1.grownBy w2 row) (hr : ∀ k, row = some k → w.heap.size ≤ k) : Grow (fun _ => False) w w2 := by
  have h := hb.grown hg hb.size hr
  exact ⟨h.os, h.tape, h.output, h.size, fun k hk _ => h.block k hk⟩
theorem own_lower {w : World} {B B' : Nat} {e : TypeId} {s n : Nat} {v : Value} {xs : List Value} (h : w.ownsRow B e s v n xs) (hb : B' ≤ B) : w.ownsRow B' e s v n xs := by
  refine ⟨h.1, ?_⟩
  rcases h.2 with hn | ⟨g, cap, cur, rfl, hB, rest⟩
  · exact .inl hn
  · exact .inr ⟨g, cap, cur, rfl, Nat.le_trans hb hB, rest⟩
set_option maxRecDepth 100000 in
theorem sorted_gen (w : World) (Bs M nn n1 : Nat) (oo : DataW Value) (sf : Nat → Option (List UInt8)) (hn : nn ≤ 1000000) (ho : Olds w n1 oo sf) (hm : MapAt w Try.prog 92 M nn oo) (hBs : w.cell? ⟨Bs, 0, none⟩ = some (.map (some M))) (hBl : Bs < w.heap.size) :
    Calls Try.prog 47 #[.func (.func 56) #[] #[.pointer (some ⟨Bs, 0, none⟩)], .func (.func 49) #[] #[]] w (LooseG sf nn w) := by
  have HC := Lib.hid (collect_gen w Bs M nn n1 oo sf hn ho hm hBs hBl)
  clear hm hBs hBl ho
  go_enter Try.func47, Try.ntmps47
  go_wp2_with fail
  refine HC.out.mono ?_
  rintro e w1 ⟨v, P, ⟨hP, hl⟩, rfl, ho, hb⟩
  have hS : Calls Try.prog 55 #[v, .func (.func 49) #[] #[]] w1 (fun e w' => e = .returned (.tuple #[]) ∧ LooseG sf nn w (.returned v) w') := by
    have hdo := own_blockD ho
    rcases ho.2 with ⟨rfl, h0⟩ | ⟨g, cap, cur, rfl, -⟩
    · refine (sortS_none w1).mono ?_
      rintro e w2 ⟨rfl, rfl⟩
      exact ⟨rfl, _, P, hP, hl, rfl, ho, ⟨hb.os, hb.tape, hb.output, hb.size, fun k hk _ => hb.block k hk⟩⟩
    · refine (sortS_any w1 w.heap.size g cap P ho (by omega)).mono ?_
      rintro e w2 ⟨rfl, P', hp, ho', hg'⟩
      refine ⟨rfl, _, P', fun i hi => hP i (hp.mem_iff.1 hi), by rw [hp.length_eq]; exact hl, rfl, ho', ?_⟩
      exact grow_of_row hb hg' (fun k e => by cases e; exact (hdo g rfl).1)
  have HS := Lib.hid hS
  clear hS ho hb hP hl
  go_wp2_with fail
  refine HS.out.mono ?_
  rintro e w2 ⟨rfl, h1⟩
  have HE := Lib.hid h1
  clear h1
  go_wp2_with fail
  go_ret
  exact HE.out
set_option maxRecDepth 100000 in
theorem loose_gen {w : World} {d O nn n1 : Nat} {oo : DataW Value} {sf : Nat → Option (List UInt8)} (hn : nn ≤ 1000000) (h4 : w.cell? ⟨d, 4, none⟩ = some (.map (some O))) (ho : Olds w n1 oo sf) (hm : MapAt w Try.prog 92 O nn oo) : Calls Try.prog 39 #[.pointer (some ⟨d, 0, none⟩)] w (LooseG sf nn w) := by
  have HM := Lib.hid hm
  have HO := Lib.hid ho
  have HN := Lib.hid hn
  clear hm ho hn
  go_enter Try.func39, Try.ntmps39
  go_wp2_with fail
  refine (keys_any w O).mono ?_
  rintro e w1 ⟨rfl, hw1⟩
  have HG := Lib.hid (show Grow (fun _ => False) w w1 from by rw [hw1]; exact (Grow.refl _ w).alloc _)
  have HS := Lib.hid (sorted_gen w1 w.heap.size O nn n1 oo sf HN.out (HO.out.same HG.out) (by rw [hw1]; exact HM.out.alloc _) (by rw [hw1]; exact (World.cell?_alloc_new w _ _ 0).trans rfl) (by rw [hw1]; simp))
  clear hw1
  go_wp2_with fail
  refine HS.out.mono ?_
  rintro e w2 ⟨v, P, hP, hl, rfl, hA, hg2⟩
  have HE := Lib.hid (show LooseG sf nn w (.returned v) w2 from ⟨v, P, hP, hl, rfl, own_lower hA HG.out.size, HG.out.trans hg2⟩)
  clear hP hl hA hg2
  go_wp2_with fail
  go_ret
  exact HE.out
end Go.Proofs.Ytnmeehhjfcciiaa
