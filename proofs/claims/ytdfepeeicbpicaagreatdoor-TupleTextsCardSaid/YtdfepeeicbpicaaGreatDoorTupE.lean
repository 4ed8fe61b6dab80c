/-
  Contract of slices.Clone at rows of tuples that are not empty.
-/
import Derived.Test.YtdfepeeicbpicaaGreatDoorTupD
namespace Go.Proofs.YtdfepeeicbpicaaGreatDoor
open Go Go.RowKit

theorem Tryz.infoTup : (Tryz.prog.info? 23).map (fun i => (i.zero, i.size, i.bytes)) = some (some (.slice none 0 0), 1, 24) := by kernel_rfl
/-- The cells from a place on hold a row of tuples' slice values. -/
def RowAt (W : World) (b off : Nat) (P : List (Value × List V3)) : Prop := ∀ j (h : j < P.length), W.cell? ⟨b, off + j, none⟩ = some P[j].1
theorem vals_one {n₀ : Nat} {w : World} {P : List (Value × List V3)} (h : AllIn n₀ w P) : ∀ u ∈ P.map (·.1), u.oneCell' = true := by
  intro u hu
  obtain ⟨x, hx, rfl⟩ := List.mem_map.1 hu
  obtain ⟨p, c, e, -⟩ := h x hx
  rw [e]
  rfl

theorem below_new (w : World) (o : Obj) : Below w.heap.size w (w.alloc o) := (Below.refl _ _).alloc (Nat.le_refl _) _
/-- What Clone leaves: a row of its own with the same values. -/
def CloneEnd (w : World) (P : List (Value × List V3)) (e : Ending) (w' : World) : Prop :=
  ∃ g cap, e = .returned (.slice (some ⟨g, 0, none⟩) P.length cap) ∧ w'.ownsRow w.heap.size 23 1 (.slice (some ⟨g, 0, none⟩) P.length cap) P.length (P.map (·.1)) ∧ Below w.heap.size w w'
set_option maxHeartbeats 1000000 in
set_option maxRecDepth 100000 in
theorem clone_any (w : World) (n₀ b off c : Nat) (P : List (Value × List V3)) (hP : AllIn n₀ w P) (hrow : RowAt w b off P) (hb : b < w.heap.size) (h1 : 1 ≤ P.length) (hlen : P.length ≤ 1000000) :
    Calls Tryz.prog 68 #[.slice (some ⟨b, off, none⟩) P.length c] w (CloneEnd w P) := by
  obtain ⟨i0, hi, hz0, hz1, hz2⟩ := info_parts Tryz.infoTup
  have HV := Lib.hid (vals_one hP)
  have HR := Lib.hid hrow
  clear hP hrow
  have HCC : Hid (∀ j u, (P.map (·.1))[j]? = some u → (w.alloc (.cells #[] 23)).cell? ((⟨b, off, none⟩ : Addr).add j) = some u) := Lib.hid (fun j u hu => by
    have hadd : (⟨b, off, none⟩ : Addr).add j = ⟨b, off + j, none⟩ := by unfold Addr.add; split <;> simp_all
    rw [hadd, (below_new w (.cells #[] 23)).cell (p := ⟨b, off + j, none⟩) hb]
    obtain ⟨hj, rfl⟩ := List.getElem?_eq_some_iff.1 hu
    rw [List.getElem_map]
    exact HR.out j (by simpa using hj))
  have hnil : ∀ W : World, (binOp .eql 50 (.slice (some ⟨b, off, none⟩) P.length c) (.slice none 0 0)).run Tryz.prog W = .ok (.bool false) W := fun W => Lib.run_eql_slice_nil (P := Tryz.prog) W 50 23 (some ⟨b, off, none⟩) P.length c 0 0 Tryz.underlying50
  go_enter Tryz.func68, Tryz.ntmps68
  go_wp2_with (at_builtin; refine wpList_append_lies _ rfl (.tmp 5) (.tmp 6) 50 rfl w.heap.size 23 i0 (.slice none 0 0) 1 24 Tryz.underlying50 hi hz0 hz1 hz2 rfl (by decide) _ 0 [] rfl (World.ownsRow_lit w #[] 0 (Nat.le_refl _) (by decide) rfl) ⟨b, off, none⟩ P.length c (P.map (·.1)) rfl (by simp) HCC.out HV.out (by omega) (by unfold maxLen; omega) (by omega) (by simp) (w.heap.size + 1) (by simp) ?_; intro g cap w1 hown hgrow hat hlt)
  go_ret
  simp only [Nat.zero_add, List.nil_append] at hown
  exact ⟨g, cap, rfl, hown, (below_new w _).grown hgrow (by simp) (fun k hk => by cases hk; exact Nat.le_refl _)⟩
end Go.Proofs.YtdfepeeicbpicaaGreatDoor
