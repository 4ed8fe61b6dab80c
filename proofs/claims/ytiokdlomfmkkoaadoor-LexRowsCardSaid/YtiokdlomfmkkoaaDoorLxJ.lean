/-
  Contracts of the builder's WriteByte and WriteString, of lex.Join and of the document's Join.
-/
import Derived.Test.YtiokdlomfmkkoaaDoorLxW
import Derived.Test.YtiokdlomfmkkoaaDoorShelfL
import Derived.Shelf.Strings.BuilderX
import Derived.Lib.Builder
import Derived.Lib.AppendStr
import Derived.Lib.UnsafeStr
import Derived.Lib.Walk
import Derived.Laws.Externs
namespace Go.Proofs.YtiokdlomfmkkoaaDoor
open Go Go.RowKit

theorem bsize : (Tryd.prog.info? 57).map (·.size) = some 2 := by kernel_rfl
theorem blies : liesAt Tryd.prog Tryd.prog.depth 57 (2 / Tryd.prog.cellsOf 57) 0 57 1 = true := by kernel_rfl
abbrev BuAt (B b : Nat) (p : Value) (bs : List Value) (w : World) : Prop := Lib.BuilderAt 57 5 B b p bs w
abbrev IsBu (B b : Nat) (bs : List Value) (w : World) : Prop := Lib.IsBuilder 57 5 B b bs w
set_option maxHeartbeats 1000000 in
set_option maxRecDepth 100000 in
theorem check_used (b : Nat) (w : World) (h0 : w.cell? ⟨b, 0, none⟩ = some (.pointer (some ⟨b, 0, none⟩))) :
    Calls Tryd.prog 46 #[.pointer (some ⟨b, 0, none⟩)] w fun e w' => e = .returned (.tuple #[]) ∧ w' = w := by
  obtain ⟨j, hj, -⟩ := Option.map_eq_some_iff.1 bsize
  go_enter Tryd.func46, Tryd.ntmps46
  go_wp2
  rw [Lib.run_neq_ptr_same w _ Tryd.underlying55 hj]
  go_wp2
  go_end0
  exact ⟨rfl, rfl⟩
set_option maxHeartbeats 1000000 in
set_option maxRecDepth 100000 in
theorem check_fresh (b : Nat) (w : World) (h0 : w.cell? ⟨b, 0, none⟩ = some (.pointer none)) (hsh : w.shape? b = some (57, 2)) (hfz : w.frozen? ⟨b, 0, none⟩ = false) :
    Calls Tryd.prog 46 #[.pointer (some ⟨b, 0, none⟩)] w fun e w' => e = .returned (.tuple #[]) ∧ w' = w.setCell ⟨b, 0, none⟩ (.pointer (some ⟨b, 0, none⟩)) := by
  obtain ⟨j, hj, hjs⟩ := Option.map_eq_some_iff.1 bsize
  go_enter Tryd.func46, Tryd.ntmps46
  go_wp2
  rw [Lib.run_to_unsafe w ⟨b, 0, none⟩ Tryd.underlying55 Tryd.underlying74 hj (by rw [hjs]; decide) hsh (Nat.zero_lt_succ 1)]
  simp only [Result.andThen]
  rw [Oper.upon_value]
  go_wp2
  rw [run_callFunc_extern Tryd.func53 (by kernel_rfl) (by kernel_rfl) (by kernel_rfl) (e := Extern.AbiNoEscape.same) (by kernel_rfl)]
  rw [Lib.run_noEscape]
  simp only [Result.andThen]
  rw [Oper.upon_value]
  go_wp2
  rw [Lib.run_from_unsafe w ⟨b, 0, none⟩ Tryd.underlying74 Tryd.underlying55 hj hsh blies]
  simp only [Result.andThen]
  rw [Oper.upon_value]
  go_wp2
  go_end0
  exact ⟨rfl, rfl⟩
theorem check_bu (B b : Nat) (bs : List Value) (w : World) (h : IsBu B b bs w) :
    Calls Tryd.prog 46 #[.pointer (some ⟨b, 0, none⟩)] w fun e w' => e = .returned (.tuple #[]) ∧ (BuAt B b (.pointer (some ⟨b, 0, none⟩)) bs w' ∧ Below B w w' ∧ w.heap.size ≤ w'.heap.size ∧ ∀ k, k ≠ b → k < w.heap.size → w'.heap[k]? = w.heap[k]?) := by
  rcases h with h | h
  · refine (check_fresh b w h.cell0 h.shape h.frozen0).mono ?_
    rintro e w' ⟨rfl, rfl⟩
    exact ⟨rfl, h.used _, (Below.refl B w).setCell (p := ⟨b, 0, none⟩) h.1 _, by simp [World.setCell], fun k e _ => Below.heap_setCell _ _ _ _ e⟩
  · refine (check_used b w h.cell0).mono ?_
    rintro e w' ⟨rfl, rfl⟩
    exact ⟨rfl, h, Below.refl B _, Nat.le_refl _, fun _ _ _ => rfl⟩
theorem bu_slice {B : Nat} {bs : List Value} {w : World} {v : Value} (h : w.ownsRow B 5 1 v bs.length bs) : ∃ p n c, v = .slice p n c := by
  rcases h.2 with ⟨e, _⟩ | ⟨g, cap, cur, e, _⟩
  · exact ⟨_, _, _, e⟩
  · exact ⟨_, _, _, e⟩
/-- Blocks of cells of another type stand. -/
def KeepNb (b : Nat) (w w' : World) : Prop := ∀ k cs T fz, w.heap[k]? = some (.cells cs T fz) → T ≠ 5 → k ≠ b → w'.heap[k]? = w.heap[k]?
theorem nb_grown {B b : Nat} {w w1 w2 : World} {v : Value} {bs : List Value} {u : Value} (h1 : ∀ k, k ≠ b → k < w.heap.size → w1.heap[k]? = w.heap[k]?) (ho : w1.ownsRow B 5 1 v bs.length bs) (hg : w1.grownBy w2 v.ownBlock) (hs : w.heap.size ≤ w1.heap.size) : KeepNb b w (w2.setCell ⟨b, 1, none⟩ u) := by
  intro k cs T fz hk hT hb
  have hlt := (Array.getElem?_eq_some_iff.1 hk).1
  have e1 := h1 k hb hlt
  refine (Below.heap_setCell _ _ _ _ hb).trans ((hg.block k (by omega) (fun e => ?_)).trans e1)
  rcases ho.2 with ⟨rfl, -⟩ | ⟨g, cap, cur, rfl, hB, hg', -⟩
  · cases e
  · simp only [Value.ownBlock, Option.some.injEq] at e
    subst e
    rw [e1, hk] at hg'
    injection hg' with hg'
    injection hg' with _ h2 _
    exact hT h2
set_option maxHeartbeats 2000000 in
set_option maxRecDepth 100000 in
theorem wstr_bu (B b : Nat) (bs : List Value) (s : ByteArray) (w : World) (h : IsBu B b bs w) (hlen : bs.length + s.size ≤ 100000000) (hBw : B ≤ w.heap.size) :
    Calls Tryd.prog 28 #[.pointer (some ⟨b, 0, none⟩), .string s] w fun e w' => e = .returned (.tuple #[.int .i64 s.size, .nilIface]) ∧ (BuAt B b (.pointer (some ⟨b, 0, none⟩)) (bs ++ Lib.strCells s) w' ∧ Below B w w' ∧ KeepNb b w w') := by
  obtain ⟨i0, hi, hz0, hz1, hz2⟩ := info_parts Tryd.infoByte
  have HC := Lib.hid (check_bu B b bs w h)
  clear h
  go_enter Tryd.func28, Tryd.ntmps28
  go_wp2_with (go_at_call 46; refine HC.out.mono ?_)
  rintro e w1 ⟨rfl, h1, hb1, hs1, hn1⟩
  have HN1 := Lib.hid hn1
  clear hn1
  obtain ⟨hB, v, hbk, hown, hne⟩ := h1
  have c1 : w1.cell? ⟨b, 1, none⟩ = some v := by rw [Lib.cell_of_heap hbk]; rfl
  go_wp2_with (at_builtin; refine Lib.wpList_append_own_string _ rfl _ _ 30 9 rfl B 5 i0 Tryd.underlying30 Tryd.underlying9 hi hz0 hz1 hz2 _ _ _ rfl hown s rfl ?c3 ?c4 ?c5 ?_)
  case c3 => unfold maxLen; omega
  case c4 => omega
  case c5 => omega
  intro v' w2 hown' hgrow _
  have hlt : b < w1.heap.size := (Array.getElem?_eq_some_iff.1 hbk).1
  have hb2 : w2.heap[b]? = some (.cells #[.pointer (some ⟨b, 0, none⟩), v] 57 (0, 0)) := (hgrow.block b hlt (fun e => hne e.symm)).trans hbk
  have d1 : w2.cell? ⟨b, 1, none⟩ = some v := by rw [Lib.cell_of_heap hb2]; rfl
  have f1 : w2.frozen? ⟨b, 1, none⟩ = false := Lib.frozen_of_heap hb2 1
  have HO := Lib.hid hown'
  have HG := Lib.hid hgrow
  have HW := Lib.hid hown
  obtain ⟨ao, n', cap, rfl⟩ : ∃ ao n' cap, v' = .slice ao n' cap := by
    rcases hown'.2 with ⟨hv, _⟩ | ⟨g, cap, cur, hv, _⟩
    · exact ⟨_, _, _, hv⟩
    · exact ⟨_, _, _, hv⟩
  clear hown' hgrow hown
  go_wp2
  go_ret2
  refine ⟨rfl, ?_, ?_, nb_grown HN1.out HW.out HG.out hs1⟩
  · exact Lib.BuilderAt.put hB hb2 (bs' := bs ++ Lib.strCells s) (by simpa [Lib.strCells_length] using HO.out) (by decide)
  · exact (hb1.grown HG.out (by omega) (fun k hk => (HW.out.lt k hk).1)).setCell (p := ⟨b, 1, none⟩) hB _
set_option maxHeartbeats 2000000 in
set_option maxRecDepth 100000 in
theorem wbyte_bu (B b : Nat) (bs : List Value) (c : Int) (w : World) (h : IsBu B b bs w) (hlen : bs.length + 1 ≤ 100000000) (hBw : B ≤ w.heap.size) :
    Calls Tryd.prog 27 #[.pointer (some ⟨b, 0, none⟩), .int .u8 c] w fun e w' => e = .returned .nilIface ∧ (BuAt B b (.pointer (some ⟨b, 0, none⟩)) (bs ++ [.int .u8 c]) w' ∧ Below B w w' ∧ KeepNb b w w') := by
  obtain ⟨i0, hi, hz0, hz1, hz2⟩ := info_parts Tryd.infoByte
  have HC := Lib.hid (check_bu B b bs w h)
  clear h
  go_enter Tryd.func27, Tryd.ntmps27
  go_wp2_with (go_at_call 46; refine HC.out.mono ?_)
  rintro e w1 ⟨rfl, h1, hb1, hs1, hn1⟩
  have HN1 := Lib.hid hn1
  clear hn1
  obtain ⟨hB, v, hbk, hown, hne⟩ := h1
  have hlt : b < w1.heap.size := (Array.getElem?_eq_some_iff.1 hbk).1
  have c1 : w1.cell? ⟨b, 1, none⟩ = some v := by rw [Lib.cell_of_heap hbk]; rfl
  go_wp2_with (at_builtin; refine wpList_append_own _ rfl _ _ 30 rfl B 5 i0 (.int .u8 0) 1 1 Tryd.underlying30 hi hz0 hz1 hz2 rfl (by decide) _ _ _ rfl (hown.alloc _) ⟨w1.heap.size, 0, none⟩ 1 1 [.int .u8 c] rfl rfl ?c1 ?c2 ?c3 ?c4 ?c5 ?_)
  case c1 =>
    intro j u hj
    match j, hj with
    | 0, hj => simp at hj; subst hj; simp [Addr.add]
  case c2 => intro u hu; simp at hu; subst hu; rfl
  case c3 => unfold maxLen; omega
  case c4 => omega
  case c5 => simp; omega
  intro v' w2 hown' hgrow _
  have hb2 : w2.heap[b]? = some (.cells #[.pointer (some ⟨b, 0, none⟩), v] 57 (0, 0)) := (hgrow.block b (by simp; omega) (fun e => hne e.symm)).trans ((Below.heap_alloc _ _ _ hlt).trans hbk)
  have d1 : w2.cell? ⟨b, 1, none⟩ = some v := by rw [Lib.cell_of_heap hb2]; rfl
  have f1 : w2.frozen? ⟨b, 1, none⟩ = false := Lib.frozen_of_heap hb2 1
  have HO := Lib.hid hown'
  have HG := Lib.hid hgrow
  have HW := Lib.hid hown
  obtain ⟨ao, n', cap, rfl⟩ : ∃ ao n' cap, v' = .slice ao n' cap := by
    rcases hown'.2 with ⟨hv, _⟩ | ⟨g, cap, cur, hv, _⟩
    · exact ⟨_, _, _, hv⟩
    · exact ⟨_, _, _, hv⟩
  clear hown' hgrow hown
  go_wp2
  go_ret
  refine ⟨rfl, ?_, ?_, nb_grown (w1 := w1.alloc (.cells #[.int .u8 c] 5)) (fun k e h => (Below.heap_alloc _ _ _ (by omega)).trans (HN1.out k e h)) (HW.out.alloc _) HG.out (by simp; omega)⟩
  · exact Lib.BuilderAt.put hB hb2 (bs' := bs ++ [.int .u8 c]) (by simpa using HO.out) (by decide)
  · exact ((hb1.alloc (by omega) _).grown HG.out (by simp; omega) (fun k hk => (HW.out.lt k hk).1)).setCell (p := ⟨b, 1, none⟩) hB _

theorem row_keep {D : Nat} {w w' : World} {e : TypeId} {s : Nat} {v : Value} {n : Nat} {xs : List Value} (h : w.ownsRow D e s v n xs) (hb : Below w.heap.size w w') : w'.ownsRow D e s v n xs := by
  refine ⟨h.1, ?_⟩
  rcases h.2 with hn | ⟨g, cap, cur, rfl, hB, hg, rest⟩
  · exact .inl hn
  · exact .inr ⟨g, cap, cur, rfl, hB, (hb.block g (Array.getElem?_eq_some_iff.1 hg).1).trans hg, rest⟩
theorem bu_keep {B b : Nat} {p : Value} {bs : List Value} {w w' : World} (h : BuAt B b p bs w) (hb : Below w.heap.size w w') : BuAt B b p bs w' := by
  obtain ⟨h1, v, h2, h3, h4⟩ := h
  exact ⟨h1, v, (hb.block b (Array.getElem?_eq_some_iff.1 h2).1).trans h2, row_keep h3 hb, h4⟩
theorem isbu_keep {B b : Nat} {bs : List Value} {w w' : World} (h : IsBu B b bs w) (hb : Below w.heap.size w w') : IsBu B b bs w' := h.elim (fun h => .inl (bu_keep h hb)) (fun h => .inr (bu_keep h hb))
theorem bu_lt {B b : Nat} {p : Value} {bs : List Value} {w : World} (h : BuAt B b p bs w) : b < w.heap.size := by
  obtain ⟨h1, v, h2, -⟩ := h
  exact (Array.getElem?_eq_some_iff.1 h2).1
/-! Join -/
theorem joinB_cons (t : List UInt8) (ts : List (List UInt8)) : joinB (t :: ts) = t ++ (if ts = [] then [] else 32 :: joinB ts) := rfl
theorem joinB_snoc : ∀ (ts : List (List UInt8)) (t : List UInt8), joinB (ts ++ [t]) = joinB ts ++ (if ts = [] then t else 32 :: t)
  | [], t => by
    rw [if_pos rfl, List.nil_append, joinB_cons, if_pos rfl, List.append_nil]
    rfl
  | a :: ts, t => by
    have hne : ts ++ [t] ≠ [] := by simp
    have hne2 : a :: ts ≠ [] := by simp
    rw [List.cons_append, joinB_cons, joinB_cons, if_neg hne, if_neg hne2, joinB_snoc ts t]
    by_cases h : ts = []
    · subst h
      rw [if_pos rfl, if_pos rfl]
      simp [joinB]
    · rw [if_neg h, if_neg h]
      simp
theorem joinB_le : ∀ (ts us : List (List UInt8)), (joinB ts).length ≤ (joinB (ts ++ us)).length
  | [], us => by simp [joinB]
  | a :: ts, us => by
    rw [List.cons_append, joinB_cons, joinB_cons]
    have := joinB_le ts us
    by_cases h : ts = []
    · rw [if_pos h]
      simp
    · rw [if_neg h, if_neg (by simp [h])]
      simp only [List.length_append, List.length_cons]
      omega
/-- The texts of tokens with blanks between. -/
def joinW (L : List Wd) : List UInt8 := joinB (L.map Wd.text)
theorem joinW_step (L : List Wd) (k : Nat) (h : k < L.length) : joinW (L.take (k + 1)) = joinW (L.take k) ++ (if k = 0 then L[k].text else 32 :: L[k].text) := by
  unfold joinW
  rw [List.take_succ_eq_append_getElem h, List.map_append, List.map_singleton, joinB_snoc]
  have e : (L.take k).map Wd.text = [] ↔ k = 0 := by
    rw [List.map_eq_nil_iff, List.take_eq_nil_iff]
    constructor
    · rintro (h' | rfl)
      · exact h'
      · simp at h
    · exact .inl
  by_cases h0 : k = 0
  · rw [if_pos (e.2 h0), if_pos h0]
  · rw [if_neg (fun g => h0 (e.1 g)), if_neg h0]
theorem joinW_le (L : List Wd) (k : Nat) : (joinW (L.take k)).length ≤ (joinW L).length := by
  unfold joinW
  have := joinB_le ((L.take k).map Wd.text) ((L.drop k).map Wd.text)
  rwa [← List.map_append, List.take_append_drop] at this
theorem bytes_app (l m : List UInt8) : Lib.byteCells (l ++ m) = Lib.byteCells l ++ Lib.byteCells m := by simp [Lib.byteCells]
theorem str_cells (l : List UInt8) : Lib.strCells ⟨l.toArray⟩ = Lib.byteCells l := by simp [Lib.strCells, Lib.byteCells]
theorem bytes_len (l : List UInt8) : (Lib.byteCells l).length = l.length := by simp [Lib.byteCells]
set_option maxHeartbeats 2000000 in
set_option maxRecDepth 100000 in
theorem join_any (v : Value) (L : List Wd) (S : Nat → Prop) (w : World) (h : WIn S w v L) (hS : ∀ k, S k → k < w.heap.size) (hlen : (joinW L).length ≤ 1000000) (hL : L.length ≤ 1000000) :
    Calls Tryd.prog 16 #[v] w fun e w' => e = .returned (.string ⟨(joinW L).toArray⟩) ∧ Below w.heap.size w w' := by
  have HI := Lib.hid h
  have HSS := Lib.hid hS
  have HLen := Lib.hid hlen
  obtain ⟨p, c, rfl, hc1, hc2, -⟩ := h
  unfold maxLen at hc2
  have hL' : (L.length : Int) ≤ 1000000 := by omega
  clear hS hlen
  go_enter Tryd.func16, Tryd.ntmps16
  go_wp2_with fail
  have hB0 : IsBu w.heap.size w.heap.size [] (w.alloc (.cells #[.pointer none, .slice none 0 0] 57)) := .inl ⟨Nat.le_refl _, _, heap_alloc_new w _, World.ownsRow_nil _ _ _ _, by simp [Value.ownBlock]⟩
  have HB0 := Lib.hid hB0
  clear hB0
  go_loopw [8] (fun i wr => ∃ k : Nat, k ≤ L.length ∧ i = .int .i64 k ∧ Hid (IsBu w.heap.size w.heap.size (Lib.byteCells (joinW (L.take k))) wr) ∧ Hid (Below w.heap.size w wr) ∧ w.heap.size < wr.heap.size) (fun i _ => L.length - (intOf i).toNat)
  case atStart => exact ⟨0, Nat.zero_le _, rfl, HB0, Lib.hid (below_box w _), by simp⟩
  case round =>
    obtain ⟨k, hk, rfl, HB, HW, hsz⟩ := hrel
    by_cases hlt : k < L.length
    · have hlt' : (k : Int) < (L.length : Int) := by omega
      obtain ⟨b, off, c', e, -, -, hbl, hbS, hat⟩ := HI.out.at_ (by omega)
      cases e
      have hcell : ∀ o, wr.cell? ⟨b, o, none⟩ = w.cell? ⟨b, o, none⟩ := fun o => HW.out.cell (p := ⟨b, o, none⟩) (HSS.out b hbS)
      obtain ⟨a0, a1, a2, a3, a4, a5⟩ := hat k hlt
      rw [← hcell] at a0 a1 a2 a3 a4 a5
      clear hcell hat
      have HJ := joinW_step L k hlt
      have hle2 := joinW_le L (k + 1)
      rw [HJ] at hle2
      obtain ⟨x, hx⟩ : ∃ x, x = L[k] := ⟨_, rfl⟩
      rw [← hx] at a0 a1 a2 a3 a4 a5 HJ hle2
      clear hx
      have hB1 := isbu_keep HB.out ((Below.refl _ _).alloc (Nat.le_refl _) (.cells #[.int .i64 x.kind, .string ⟨x.text.toArray⟩, .int .i64 x.val.1, .int .i64 x.val.2.1, .string x.val.2.2, .int .i64 x.pos] 37))
      have HW1 := Lib.hid (HW.out.alloc (by omega) (.cells #[.int .i64 x.kind, .string ⟨x.text.toArray⟩, .int .i64 x.val.1, .int .i64 x.val.2.1, .string x.val.2.2, .int .i64 x.pos] 37))
      have hnew := heap_alloc_new wr (.cells #[.int .i64 x.kind, .string ⟨x.text.toArray⟩, .int .i64 x.val.1, .int .i64 x.val.2.1, .string x.val.2.2, .int .i64 x.pos] 37)
      have k1 := cell_of_row _ _ 1 _ _ (0, 0) hnew
      have HNew := Lib.hid hnew
      have hs1 : (wr.alloc (.cells #[.int .i64 x.kind, .string ⟨x.text.toArray⟩, .int .i64 x.val.1, .int .i64 x.val.2.1, .string x.val.2.2, .int .i64 x.pos] 37)).heap.size = wr.heap.size + 1 := by simp
      by_cases h0 : k = 0
      · have hn1 : ¬ 0 < k := by omega
        have hn2 : ¬ (0 : Int) < (k : Int) := by omega
        rw [if_pos h0] at HJ hle2
        have HQ := Lib.hid HJ
        have hz2 : (joinW (L.take k)).length + x.text.length ≤ 1000000 := by have := HLen.out; rw [List.length_append] at hle2; omega
        have HS := Lib.hid (wstr_bu w.heap.size w.heap.size (Lib.byteCells (joinW (L.take k))) ⟨x.text.toArray⟩ _ hB1 (by rw [bytes_len, Lib.size_eq]; simpa using (show (joinW (L.take k)).length + x.text.length ≤ 100000000 by omega)) (by omega))
        clear hnew hle2 hz2 hB1 hs1 HJ h0
        go_wp2_with (go_at_call 28; refine HS.out.mono ?_; rintro e w3 ⟨rfl, hb3, hb4, hb5⟩; have HB3 := Lib.hid hb3; have HB4 := Lib.hid hb4; have hn5 := (hb5 _ _ _ _ HNew.out (by decide) (by omega)).trans HNew.out; have k5 := cell_of_row _ _ 1 _ _ (0, 0) hn5; clear hb3 hb4 hb5 hn5)
        go_roundw
        case rel => exact ⟨k + 1, by omega, by go_num, Lib.hid (by rw [HQ.out, bytes_app, ← str_cells x.text]; exact .inr HB3.out), Lib.hid (HW1.out.trans HB4.out), bu_lt HB3.out⟩
        case measure => simp [intOf]; omega
      · have hn1 : 0 < k := by omega
        have hn2 : (0 : Int) < (k : Int) := by omega
        rw [if_neg h0] at HJ hle2
        have HQ := Lib.hid HJ
        have hz2 : (joinW (L.take k)).length + (x.text.length + 1) ≤ 1000000 := by have := HLen.out; rw [List.length_append, List.length_cons] at hle2; omega
        have HZ := Lib.hid hz2
        have HY := Lib.hid (wbyte_bu w.heap.size w.heap.size (Lib.byteCells (joinW (L.take k))) 32 _ hB1 (by rw [bytes_len]; omega) (by omega))
        have hbyte : (Lib.byteCells (joinW (L.take k)) ++ [Value.int .u8 32]).length = (joinW (L.take k)).length + 1 := by rw [List.length_append, bytes_len]; rfl
        have HBy := Lib.hid hbyte
        clear hle2 hz2 hB1 HJ h0 hbyte
        go_wp2_with (go_at_call 27; refine HY.out.mono ?_; rintro e w3 ⟨rfl, hb3, hb4, hb5⟩; have HB3 := Lib.hid hb3; have HB4 := Lib.hid hb4; have hn5 := (hb5 _ _ _ _ HNew.out (by decide) (by omega)).trans HNew.out; have k5 := cell_of_row _ _ 1 _ _ (0, 0) hn5; clear hb3 hb4 hb5 hn5)
        have HS := Lib.hid (wstr_bu w.heap.size w.heap.size _ ⟨x.text.toArray⟩ w3 (.inr HB3.out) (by rw [HBy.out, Lib.size_eq]; have := HZ.out; simpa using (show (joinW (L.take k)).length + 1 + x.text.length ≤ 100000000 by omega)) (Nat.le_of_lt (bu_lt HB3.out)))
        go_wp2_with (go_at_call 28; refine HS.out.mono ?_; rintro e w4 ⟨rfl, hb6, hb7, hb8⟩; have HB6 := Lib.hid hb6; have HB7 := Lib.hid hb7; clear hb6 hb7 hb8)
        go_roundw
        case rel => exact ⟨k + 1, by omega, by go_num, Lib.hid (by
          rw [HQ.out, bytes_app, show Lib.byteCells (32 :: x.text) = [Value.int .u8 32] ++ Lib.byteCells x.text from rfl, ← List.append_assoc, ← str_cells x.text]
          exact .inr HB6.out), Lib.hid ((HW1.out.trans HB4.out).trans HB7.out), bu_lt HB6.out⟩
        case measure => simp [intOf]; omega
    · have hge : ¬ (k : Int) < (L.length : Int) := by omega
      have HE : Hid (joinW (L.take k) = joinW L) := Lib.hid (by rw [List.take_of_length_le (by omega)])
      have HS := Lib.hid (Tryd.Builder_String_any w.heap.size w.heap.size (joinW (L.take k)) wr HB.out (by omega))
      go_wp2_with (go_at_call 29; refine HS.out.mono ?_; rintro e w3 ⟨rfl, hb3⟩)
      go_ret
      exact ⟨by rw [HE.out]; rfl, HW.out.trans hb3⟩
end Go.Proofs.YtiokdlomfmkkoaaDoor
