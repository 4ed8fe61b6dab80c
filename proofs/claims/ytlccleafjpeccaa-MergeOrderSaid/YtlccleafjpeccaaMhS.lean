/-
  Contract of the laws' single; rows of one row.
-/
import Derived.Test.YtlccleafjpeccaaMhE
import Derived.Test.YtlccleafjpeccaaMhG
namespace Go.Proofs.Ytlccleafjpeccaa
open Go Go.RowKit Go.Shelf

theorem RowsIn.lit {S : Nat → Prop} {w : World} {p : Option Addr} {c : Nat} {L : List Th} (h : ThIn (fun k => S k ∧ k < w.heap.size) w (.slice p L.length c) L) (hS : S w.heap.size) : RowsIn S (w.alloc (.cells #[.slice p L.length c] 22)) (.slice (some ⟨w.heap.size, 0, none⟩) 1 1) [L] := by
  refine ⟨_, 1, rfl, by simp, by decide, .inr ⟨w.heap.size, 0, rfl, hS, by simp, fun j hj => ?_⟩⟩
  obtain rfl : j = 0 := by simpa using hj
  exact ⟨.slice p L.length c, by rw [cell_of_row _ _ _ _ _ (0, 0) (heap_alloc_new w _)]; rfl, h.keep (by simp) (fun k e hk => ⟨e.1, Below.heap_alloc _ _ _ (by omega)⟩)⟩
def oneL (L : List Th) : List (List Th) := L.map fun x => [x]
/-- What the loop of single keeps. -/
def SgJ (L : List Th) (w : World) (n : Nat) (v : Value) (W : World) : Prop := OwnRr w.heap.size (fun k => w.heap.size ≤ k ∧ v.ownBlock ≠ some k) W v (oneL (L.take n)) ∧ Below w.heap.size w W
theorem SgJ.step {L : List Th} {w : World} {n : Nat} {v v' : Value} {W W' : World} {x : Th} (h : SgJ L w n v W) (hn : n < L.length) (hx : x = L[n]) {us : List Value} (hu : us.length = (oneL (L.take n)).length) (h2 : W.ownsRow w.heap.size 22 1 v n us) (h3 : ∀ j (h : j < us.length) (h' : j < (oneL (L.take n)).length), ThIn (fun k => w.heap.size ≤ k ∧ v.ownBlock ≠ some k) W us[j] (oneL (L.take n))[j]) {o : Obj}
    (ho : W'.ownsRow w.heap.size 22 1 v' (n + 1) (us ++ [.slice (some ⟨W.heap.size, 0, none⟩) 1 1]))
    (hg : ((W.alloc (.cells #[.int .i8 x.1, .int .i64 x.2] 28)).alloc o).grownBy W' v.ownBlock) (hv : v'.ownBlock = v.ownBlock ∨ v'.ownBlock = some (W.heap.size + 2)) : SgJ L w (n + 1) v' W' := by
  have hsz : W.heap.size + 2 ≤ W'.heap.size := by have := hg.size; simp at this; omega
  have hwz := h.2.size
  have hl := fun k (e : v.ownBlock = some k) => World.ownsRow.lt h2 k e
  have hb0 : Below w.heap.size w ((W.alloc (.cells #[.int .i8 x.1, .int .i64 x.2] 28)).alloc o) := (h.2.alloc hwz _).alloc (by simp; omega) _
  have hb : Below w.heap.size w W' := hb0.grown hg hb0.size (fun k e => (hl k e).1)
  have old : ∀ k, k < W.heap.size → v.ownBlock ≠ some k → W'.heap[k]? = W.heap[k]? := fun k hk hne => (hg.block k (by simp; omega) (fun e => hne e.symm)).trans ((Below.heap_alloc _ _ _ (by simp; omega)).trans (Below.heap_alloc _ _ _ (by omega)))
  have hlt : (oneL (L.take n)).length = n := by unfold oneL; rw [List.length_map, List.length_take]; omega
  refine ⟨?_, hb⟩
  have e1 : oneL (L.take (n + 1)) = oneL (L.take n) ++ [[x]] := by unfold oneL; rw [List.take_succ_eq_append_getElem hn, List.map_append, ← hx]; rfl
  rw [e1]
  refine OwnRr.snoc hu (fun j hj hj' => (h3 j hj hj').keep (by omega) (fun k e hk => ⟨⟨e.1, fun e' => ?_⟩, old k hk e.2⟩)) ?_ (by rw [hlt]; exact ho)
  · rcases hv with hv | hv
    · exact e.2 (hv ▸ e')
    · rw [hv] at e'; injection e' with e'; omega
  · have hl2 := (litTh_in W x.1 x.2)
    refine hl2.keep (by simp; omega) (fun k e hk => ?_)
    have e' : k = W.heap.size := e
    subst e'
    refine ⟨⟨hwz, fun e' => ?_⟩, (hg.block _ (by simp; omega) (fun e' => ?_)).trans (Below.heap_alloc _ _ _ (by simp))⟩
    · rcases hv with hv | hv
      · rw [hv] at e'; have := (hl _ e').2; omega
      · rw [hv] at e'; injection e' with e'; omega
    · have := (hl _ e'.symm).2; omega
set_option maxRecDepth 100000 in
set_option maxHeartbeats 2000000 in
theorem single_any {S : Nat → Prop} {v : Value} {L0 : List Th} {w : World} (h : ThIn S w v L0) :
    Calls Try.prog 42 #[v] w (RowEnd (mergeL (oneL (L0.take 30))) w) := by
  have HSh := Lib.hid (short_any (show ThIn (fun k => S k ∧ k < w.heap.size) w v L0 from h.keep (Nat.le_refl _) (fun k e hk => ⟨⟨e, hk⟩, rfl⟩)))
  obtain ⟨L, hL⟩ : ∃ L, L = L0.take 30 := ⟨_, rfl⟩
  have hLl : L.length ≤ 30 := by rw [hL, List.length_take]; omega
  rw [← hL] at HSh ⊢
  obtain ⟨p, c, rfl, -⟩ := h
  clear hL
  go_enter Try.func42, Try.ntmps42
  go_wp2_with fail
  refine HSh.out.mono ?_
  rintro e w1 ⟨v1, rfl, hv1, rfl⟩
  have HV := Lib.hid hv1
  obtain ⟨p1, c1, rfl, -⟩ := hv1
  have HLl := Lib.hid hLl
  have H0 := Lib.hid (show SgJ L w 0 (.slice none 0 0) w from ⟨OwnRr.nil _ _ _, Below.refl _ _⟩)
  clear HSh
  go_wp2_with fail
  go_loopw [3, 4] (fun v i wr => ∃ n : Nat, n ≤ L.length ∧ i = .int .i64 n ∧ Hid (SgJ L w n v wr)) (fun _ i _ => L.length - (intOf i).toNat)
  case atStart => exact ⟨0, Nat.zero_le _, rfl, H0⟩
  case round =>
    obtain ⟨n, hn, rfl, HJ⟩ := hrel
    by_cases hlt : n < L.length
    · have hlt' : (n : Int) < (L.length : Int) := by omega
      obtain ⟨x, hx⟩ : ∃ x, x = L[n] := ⟨_, rfl⟩
      obtain ⟨b, off, rfl, hbl, hc⟩ := HV.out.row (by rintro rfl; simp at hlt)
      have hbS : b < w.heap.size := hbl
      obtain ⟨x0, x1⟩ := hc n hlt
      rw [← hx] at x0 x1
      have y0 : wr.cell? ⟨b, off + n * 2, none⟩ = some (.int .i8 x.1) := (HJ.out.2.cell (p := ⟨b, _, none⟩) hbS).trans x0
      have y1 : wr.cell? ⟨b, off + n * 2 + 1, none⟩ = some (.int .i64 x.2) := (HJ.out.2.cell (p := ⟨b, _, none⟩) hbS).trans x1
      obtain ⟨us, hu, h2, h3⟩ := HJ.out.1
      have hlo : (oneL (L.take n)).length = n := by unfold oneL; rw [List.length_map, List.length_take]; omega
      rw [hlo] at h2
      have HU := Lib.hid (And.intro hu (And.intro h2 h3))
      have HX := Lib.hid hx
      have HBz := Lib.hid (show w.heap.size ≤ ((wr.alloc (.cells #[.int .i8 x.1, .int .i64 x.2] 28)).alloc (.cells #[.slice (some ⟨wr.heap.size, 0, none⟩) 1 1] 22)).heap.size by have := HJ.out.2.size; simp; omega)
      have HOk := Lib.hid (show ((wr.alloc (.cells #[.int .i8 x.1, .int .i64 x.2] 28)).alloc (.cells #[.slice (some ⟨wr.heap.size, 0, none⟩) 1 1] 22)).ownsRow w.heap.size 22 1 _ n us from ownsRow_keep h2 (fun k e => by
        have := (World.ownsRow.lt h2 k e).2
        exact (Below.heap_alloc _ _ _ (by simp; omega)).trans (Below.heap_alloc _ _ _ (by omega))))
      have HSz := Lib.hid (show some ((wr.alloc (.cells #[.int .i8 x.1, .int .i64 x.2] 28)).alloc (.cells #[.slice (some ⟨wr.heap.size, 0, none⟩) 1 1] 22)).heap.size = some (wr.heap.size + 2) by simp)
      have HCe := Lib.hid (show ((wr.alloc (.cells #[.int .i8 x.1, .int .i64 x.2] 28)).alloc (.cells #[.slice (some ⟨wr.heap.size, 0, none⟩) 1 1] 22)).cell? ⟨wr.heap.size + 1, 0, none⟩ = some (.slice (some ⟨wr.heap.size, 0, none⟩) 1 1) by
        have := heap_alloc_new (wr.alloc (.cells #[.int .i8 x.1, .int .i64 x.2] 28)) (.cells #[.slice (some ⟨wr.heap.size, 0, none⟩) 1 1] 22)
        rw [World.size_alloc] at this
        rw [cell_of_row _ _ 0 _ _ (0, 0) this]; rfl)
      clear hc x0 x1 hu h2 h3 hx hlo
      go_wp2_with (at_builtin; refine wpList_app1 rfl (.tmp 13) (.tmp 19) 39 22 rfl w.heap.size (.slice none 0 0) 24 Try.underlying39 infoRr rfl (by decide) _ (.slice (some ⟨wr.heap.size, 0, none⟩) 1 1) n (wr.heap.size + 1) us rfl rfl HCe.out rfl HOk.out (by omega) HBz.out ?_; intro v3 w3 ho hg hv; have HN := Lib.hid (SgJ.step HJ.out hlt HX.out HU.out.1 HU.out.2.1 HU.out.2.2 ho hg (hv.imp_right fun e => e.trans HSz.out)); clear ho hg hv)
      go_roundw
      case rel => exact ⟨n + 1, hlt, by simp, HN⟩
      case measure => simp [intOf]; omega
    · obtain rfl : n = L.length := by omega
      have ho := HJ.out.1
      rw [List.take_length] at ho
      have hl1 : (oneL L).length ≤ 1000 := by unfold oneL; rw [List.length_map]; have := HLl.out; omega
      have ht1 : tot (oneL L) ≤ 1000000 := by
        have := tot_le (oneL L) 1 (fun M hM => by unfold oneL at hM; obtain ⟨x, -, rfl⟩ := List.mem_map.1 hM; simp)
        omega
      have HRm := Lib.hid (rmerge_any (ho.in_ (S' := fun k => w.heap.size ≤ k) (fun k e => e.1) (fun k e => (ho.lt k e).1)) hl1 ht1)
      have HB := Lib.hid HJ.out.2
      clear ho hl1 ht1 HJ
      go_wp2_with fail
      refine HRm.out.mono ?_
      rintro e w4 ⟨v4, rfl, ho4, hb4⟩
      have HO4 := Lib.hid (And.intro ho4 hb4)
      clear ho4 hb4 HRm
      go_wp2_with fail
      go_ret
      exact ⟨_, rfl, HO4.out.1.mono HB.out.size, HB.out.trans (HO4.out.2.mono HB.out.size)⟩
end Go.Proofs.Ytlccleafjpeccaa
