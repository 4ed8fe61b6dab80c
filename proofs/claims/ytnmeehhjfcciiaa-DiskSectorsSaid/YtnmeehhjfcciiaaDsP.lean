/-
  restore at any sector: what is fixed of it, and 0 behind that.
-/
import Derived.Test.YtnmeehhjfcciiaaDsO
import Derived.Test.YtnmeehhjfcciiaaDkG
namespace Go.Proofs.Ytnmeehhjfcciiaa
open Go Go.RowKit Go.Maps Go.WideMaps

theorem over_at {l m : List UInt8} {at_ : Nat} (h : at_ + m.length ≤ l.length) (j : Nat) : (over l m at_ m.length)[j]? = if at_ ≤ j ∧ j < at_ + m.length then m[j - at_]? else l[j]? := by
  unfold over
  rw [List.take_length]
  have h1 : (l.take at_).length = at_ := by rw [List.length_take]; omega
  by_cases a : j < at_
  · rw [if_neg (by omega), List.append_assoc, List.getElem?_append_left (by omega), List.getElem?_take, if_pos a]
  · by_cases b : j < at_ + m.length
    · rw [if_pos ⟨by omega, b⟩, List.append_assoc, List.getElem?_append_right (by omega), h1, List.getElem?_append_left (by omega)]
    · rw [if_neg (by omega), List.getElem?_append_right (by rw [List.length_append]; omega), List.getElem?_drop, List.length_append, h1]
      congr 1
      omega
theorem own_over {nF : Nat} {w : World} {g cap : Nat} {l : List UInt8} (hf : OwnF nF w (.slice (some ⟨g, 0, none⟩) l.length cap) l) (m : List UInt8) (at_ : Nat) (h : at_ + m.length ≤ l.length) :
    ∃ cur, w.heap[g]? = some (.cells cur 5 (0, 0)) ∧ l.length ≤ cur.size ∧ OwnF nF (w.setRow g (cur.toList.take at_ ++ BV m ++ cur.toList.drop (at_ + m.length)).toArray) (.slice (some ⟨g, 0, none⟩) l.length cap) (over l m at_ m.length) := by
  rcases hf.2 with ⟨e, -⟩ | ⟨g', cap', cur, e, hb', hgr, h2, h3, h4, h5⟩
  · cases e
  injection e with e1 _ e2
  injection e1 with e1
  injection e1 with e1 _ _
  subst e1 e2
  have hcl : cur.toList.length = cur.size := by simp
  refine ⟨cur, hgr, by omega, ?_⟩
  have hol := over_len (L := l) (B := m) (at_ := at_) (k := m.length) h (Nat.le_refl _)
  unfold OwnF
  rw [hol]
  refine ⟨by rw [bv_len, hol]; omega, .inr ⟨g, cap, _, rfl, hb', setRow_heap w g cur _ _ _ hgr, h2, h3, ?_, ?_⟩⟩
  · simp only [List.size_toArray, List.length_append, List.length_take, List.length_drop, bv_len, hcl]
    omega
  · rw [List.toList_toArray, Nat.mul_one]
    have := row_over (cur := cur.toList) (L := l) (B := m) (at_ := at_) (k := m.length) h (Nat.le_refl _) (by rw [← Nat.mul_one l.length]; exact h5) (by omega)
    rwa [List.take_length] at this
theorem grow_row (w : World) (g : Nat) (r : Array Value) : Grow (fun x => x = g) w (w.setRow g r) := ⟨rfl, rfl, rfl, by simp, fun k _ hne => setRow_other w g k _ hne⟩
theorem zero_n (n : Nat) : (Builtin.zeroCells (Value.int .u8 0).cells n).toList = List.replicate n (Value.int .u8 0) := by
  apply List.ext_getElem?
  intro j
  have e : (Value.int .u8 0).cells = #[.int .u8 0] := rfl
  rw [e]
  simp only [Builtin.zeroCells, Array.toList_map, Array.toList_range, List.getElem?_map, List.size_toArray, List.length_cons, List.length_nil, Nat.zero_add, Nat.mul_one, Nat.mod_one, List.getElem?_replicate]
  by_cases h : j < n
  · rw [List.getElem?_range h, if_pos h]; rfl
  · rw [if_neg h, List.getElem?_eq_none (by simp; omega)]; rfl
theorem bv_zero (n : Nat) : BV (List.replicate n 0) = List.replicate n (Value.int .u8 0) := by simp [BV]
theorem copy_sec {w : World} {nF nB : Nat} {bv : Value} {l B : List UInt8} {g cap at_ k c dc : Nat} (hf : OwnF nF w (.slice (some ⟨g, 0, none⟩) l.length cap) l) (hb : RdIn nB w bv B) (ha : at_ + k ≤ l.length) (hc : c = min B.length k) (hne : ∀ b off n c, bv = .slice (some ⟨b, off, none⟩) n c → b ≠ g) :
    ∃ w4, (∀ ty, (Builtin.copy_ #[22, 22] ty #[.slice (some ⟨g, at_, none⟩) k dc, bv]).run Try.prog w = .ok (.int .i64 (c : Int)) w4) ∧ OwnF nF w4 (.slice (some ⟨g, 0, none⟩) l.length cap) (over l (B.take c) at_ (B.take c).length) ∧ Grow (fun x => x = g) w w4 ∧ w4.heap.size = w.heap.size := by
  obtain ⟨i0, hi, hz0, hz1, hz2⟩ := info_parts infoU8
  have hsz : (Try.prog.info? 5).map (·.size) = some 1 := by rw [hi]; simp [hz1]
  have hl : (B.take c).length = c := by rw [List.length_take]; omega
  by_cases h0 : c = 0
  · have hbs : ∃ s sc, bv = .slice s B.length sc := by
      rcases hb with ⟨rfl, rfl | ⟨a, c, rfl⟩⟩ | ⟨b, off, c, rfl, -⟩
      · exact ⟨none, 0, rfl⟩
      · exact ⟨some a, c, rfl⟩
      · exact ⟨_, c, rfl⟩
    obtain ⟨s, sc, ebv⟩ := hbs
    refine ⟨w, ?_, ?_, Grow.refl _ _, rfl⟩
    · intro ty
      rw [ebv, h0]
      exact Go.run_copy_none (P := Try.prog) w 22 22 ty 5 _ s k dc B.length sc Try.underlying22 hsz (by show min B.length k = 0; omega)
    · rw [hl, h0]
      show OwnF nF w _ (over l ([] : List UInt8) at_ 0)
      rw [over_zero]
      exact hf
  · rcases hb with ⟨rfl, -⟩ | ⟨bb, off, bc, rfl, hbb, hbc⟩
    · exact absurd hc (by simp; exact h0)
    obtain ⟨cur, hgr, hcs, ho⟩ := own_over hf (B.take c) at_ (by omega)
    have hcl : cur.toList.length = cur.size := by simp
    have hr := fun ty => run_copy_row (P := Try.prog) w 22 22 ty 5 g at_ k dc ⟨bb, off, none⟩ B.length bc cur 5 (BV (B.take c)) Try.underlying22 hsz hgr (by rw [bv_len, hl]; exact hc)
      (fun j u hu => by
        obtain ⟨hj, rfl⟩ := bv_at hu
        have a : (⟨bb, off, none⟩ : Addr).add j = ⟨bb, off + j, none⟩ := by unfold Addr.add; split <;> simp_all
        rw [a, hbc j (by omega)]
        simp) (by rw [bv_len, hl]; omega) (bv_one _)
    have hr' := hr
    simp only [bv_len, hl] at hr'
    rw [hl] at ho ⊢
    exact ⟨_, fun ty => by rw [hr' ty]; rfl, ho, grow_row _ _ _, by simp⟩
theorem clear_sec {w : World} {nF : Nat} {l : List UInt8} {g cap at_ q dc : Nat} (hf : OwnF nF w (.slice (some ⟨g, 0, none⟩) l.length cap) l) (ha : 0 < q → at_ + q ≤ l.length) :
    ∃ w4, (∀ ty, (Builtin.clear_ #[22] ty #[.slice (some ⟨g, at_, none⟩) q dc]).run Try.prog w = .ok (.tuple #[]) w4) ∧ OwnF nF w4 (.slice (some ⟨g, 0, none⟩) l.length cap) (over l (List.replicate q 0) at_ (List.replicate q (0 : UInt8)).length) ∧ Grow (fun x => x = g) w w4 ∧ w4.heap.size = w.heap.size := by
  by_cases h0 : q = 0
  · subst h0
    refine ⟨w, ?_, ?_, Grow.refl _ _, rfl⟩
    · simp [Builtin.clear_, run_underlying Try.underlying22, Result.andThen]
    · show OwnF nF w _ (over l ([] : List UInt8) at_ 0)
      rw [over_zero]
      exact hf
  · have hq := ha (by omega)
    obtain ⟨cur, hgr, hcs, ho⟩ := own_over hf (List.replicate q 0) at_ (by rw [List.length_replicate]; exact hq)
    have hst := run_storeCells_at (P := Try.prog) g at_ 5 (List.replicate q (Value.int .u8 0)) 0 cur w hgr (by simp; omega) (fun v hv => by rw [List.eq_of_mem_replicate hv]; rfl)
    have hz := zero_n q
    rw [bv_zero, List.length_replicate] at ho
    simp only [List.length_replicate, Nat.add_zero] at hst
    rw [List.length_replicate]
    refine ⟨_, ?_, ho, grow_row _ _ _, by simp⟩
    obtain ⟨q', rfl⟩ : ∃ q', q = q' + 1 := ⟨q - 1, by omega⟩
    generalize List.replicate (q' + 1) (Value.int .u8 0) = Z at *
    generalize (cur.toList.take at_ ++ Z ++ cur.toList.drop (at_ + (q' + 1))).toArray = R at *
    simp [Builtin.clear_, run_underlying Try.underlying22, hz, hst, Result.andThen]
/-- A sector's bytes are those of another row, and 0 behind them; all else is as it was. -/
def Mend (r l B : List UInt8) (at_ k : Nat) : Prop := r.length = l.length ∧ ∀ j, j < l.length → r[j]? = if at_ ≤ j ∧ j < at_ + k then some ((B[j - at_]?).getD 0) else l[j]?
theorem mend_over {l B : List UInt8} {at_ k c : Nat} (ha : at_ + k ≤ l.length) (hc : c = min B.length k) : Mend (over (over l (B.take c) at_ (B.take c).length) (List.replicate (k - c) 0) (at_ + c) (List.replicate (k - c) (0 : UInt8)).length) l B at_ k := by
  have hl : (B.take c).length = c := by rw [List.length_take]; omega
  have h1 : (over l (B.take c) at_ (B.take c).length).length = l.length := over_len (by omega) (Nat.le_refl _)
  refine ⟨(over_len (by rw [h1, List.length_replicate]; omega) (Nat.le_refl _)).trans h1, fun j hj => ?_⟩
  rw [over_at (by rw [h1, List.length_replicate]; omega), over_at (by omega), List.length_replicate, hl]
  by_cases a : at_ ≤ j ∧ j < at_ + k
  · rw [if_pos a]
    by_cases b : j < at_ + c
    · rw [if_neg (by omega), if_pos ⟨a.1, b⟩, List.getElem?_take, if_pos (by omega)]
      have : j - at_ < B.length := by omega
      rw [List.getElem?_eq_getElem this]
      rfl
    · rw [if_pos (by omega), List.getElem?_replicate, if_pos (by omega), List.getElem?_eq_none (by omega)]
      rfl
  · rw [if_neg a, if_neg (by omega), if_neg (by omega)]
set_option maxRecDepth 100000 in
theorem restore_in {w : World} {nF nB : Nat} {bv : Value} {l B : List UInt8} {g cap at_ k : Nat} (hf : OwnF nF w (.slice (some ⟨g, 0, none⟩) l.length cap) l) (hb : RdIn nB w bv B) (ha : at_ + k ≤ l.length) (hk : k ≤ 64) (hne : ∀ b off n c, bv = .slice (some ⟨b, off, none⟩) n c → b ≠ g) :
    Calls Try.prog 41 #[.slice (some ⟨g, at_, none⟩) k k, bv] w fun e w' => e = .returned (.tuple #[]) ∧ ∃ r, Mend r l B at_ k ∧ OwnF nF w' (.slice (some ⟨g, 0, none⟩) r.length cap) r ∧ Grow (fun x => x = g) w w' := by
  obtain ⟨c, hc⟩ : ∃ c, c = min B.length k := ⟨_, rfl⟩
  have HM := Lib.hid (mend_over ha hc)
  have hck : c ≤ k := by omega
  have hl1 : (over l (B.take c) at_ (B.take c).length).length = l.length := over_len (by rw [List.length_take]; omega) (Nat.le_refl _)
  obtain ⟨w4, hr4, ho4, hg4, hs4⟩ := copy_sec (w := w) (dc := k) hf hb ha hc hne
  generalize over l (B.take c) at_ (B.take c).length = l1 at *
  rw [← hl1] at ho4
  have ha4 : at_ + c + (k - c) ≤ l1.length := by omega
  by_cases e : c = k
  · obtain ⟨w5, hr5, ho5, hg5, hs5⟩ := clear_sec (w := w4) (dc := 0) (q := 0) (at_ := at_) ho4 (by intro h; omega)
    subst e
    have HE := Lib.hid (show ∃ r, Mend r l B at_ c ∧ OwnF nF w5 (.slice (some ⟨g, 0, none⟩) r.length cap) r ∧ Grow (fun x => x = g) w w5 from by
      refine ⟨l1, ?_, ?_, hg4.trans hg5⟩
      · have h := HM.out
        rw [Nat.sub_self] at h
        have e0 : over l1 (List.replicate 0 (0 : UInt8)) (at_ + c) (List.replicate 0 (0 : UInt8)).length = l1 := over_zero _ _ _
        rwa [e0] at h
      · have e0 : over l1 (List.replicate 0 (0 : UInt8)) at_ (List.replicate 0 (0 : UInt8)).length = l1 := over_zero _ _ _
        rwa [e0] at ho5)
    have hk1 : (c : Int) ≤ 64 := by omega
    have hk0 : (0 : Int) ≤ (c : Int) := by omega
    clear hf hb hne ho4 hg4 hs4 ho5 hg5 hs5 HM hl1 ha4 hc
    go_enter Try.func41, Try.ntmps41
    go_wp2_with fail
    exact bodyPost_end (results_none rfl _ _ _) rfl ⟨rfl, HE.out⟩
  · obtain ⟨w5, hr5, ho5, hg5, hs5⟩ := clear_sec (w := w4) (dc := k - c) (q := k - c) (at_ := at_ + c) ho4 (fun _ => ha4)
    have HE := Lib.hid (show ∃ r, Mend r l B at_ k ∧ OwnF nF w5 (.slice (some ⟨g, 0, none⟩) r.length cap) r ∧ Grow (fun x => x = g) w w5 from by
      refine ⟨_, HM.out, ?_, hg4.trans hg5⟩
      have e0 : (over l1 (List.replicate (k - c) (0 : UInt8)) (at_ + c) (List.replicate (k - c) (0 : UInt8)).length).length = l1.length := over_len (by rw [List.length_replicate]; omega) (Nat.le_refl _)
      rw [e0]
      exact ho5)
    have hk1 : (k : Int) ≤ 64 := by omega
    have hk0 : (0 : Int) ≤ (c : Int) := by omega
    have hk2 : (c : Int) ≤ (k : Int) := by omega
    have hk3 : ¬ k = c := fun h => e h.symm
    have hk4 : ¬ k ≤ c := by omega
    clear hf hb hne ho4 hg4 hs4 ho5 hg5 hs5 HM hl1 ha4 hc
    go_enter Try.func41, Try.ntmps41
    go_wp2_with fail
    exact bodyPost_end (results_none rfl _ _ _) rfl ⟨rfl, HE.out⟩
end Go.Proofs.Ytnmeehhjfcciiaa
