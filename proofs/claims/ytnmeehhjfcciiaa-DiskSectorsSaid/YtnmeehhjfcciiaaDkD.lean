/-
  Disk.Create at a name that is new.
-/
import Derived.Test.YtnmeehhjfcciiaaDkC
import Derived.Lib.Strings
namespace Go.Proofs.Ytnmeehhjfcciiaa
open Go Go.RowKit Go.Maps Go.WideMaps

theorem step_store_any {P : Program} {w : World} {ops : Array Oper} {o : Oper} {a : Act} {K : Act → World → Prop} {Q : Exit → Act → World → Prop} {E : Prop} (hgd : o.guard = none) (m x v : Operand) (t : TypeId) (hop : o.op = Op.mapUpdate t m x v)
    (k e : TypeId) (KK : Keyed P k) (ht : P.underlying t = some (.map k e)) (b n : Nat) (D : DataW Value)
    (hm : a.eval m = .map (some b)) (hown : MapAt w P k b n D) (hn : n < maxLen) (key val : Value) (kl : Lit) (hx : a.eval x = key) (hv : a.eval v = val) (hkey : keyOf P k key = some kl)
    (hK : ∀ w', MapAt w' P k b (n + 1) (D.put kl (.held val)) → w.grownBy w' (some b) → K (a.put o.dst undef) w') :
    if Region.wanted o (yielded ops a.tmps) = true then Oper.wp P o a w K Q else E := by
  have hw : Region.wanted o (yielded ops a.tmps) = true := by simp [Region.wanted, hgd]
  rw [if_pos hw]
  obtain ⟨w', hrun, r1, r2⟩ := World.ownsMap.update hown KK ht hn hkey (d := .held val) (ps := []) rfl
  unfold Oper.wp
  simp [execOp, hop, hm, hx, hv, hrun, Result.andThen]
  exact hK w' r1 r2
/-- The state of a disk without a fuse: its cells, its four maps, the row of its changes. -/
structure DkS (n0 : Nat) (w : World) (d F O D X : Nat) (room next : Int) (nf no nd nx m : Nat) (ff oo dd xx : DataW Value) (chg : Value) (xs : List Value) : Prop where
  on : DkOn w d room next F O D X chg
  files : MapAt w Try.prog 3 F nf ff
  olds : MapAt w Try.prog 92 O no oo
  dir : MapAt w Try.prog 9 D nd dd
  fixed : MapAt w Try.prog 9 X nx xx
  own : w.ownsRow n0 72 3 chg m xs
  apart : d ≠ F ∧ d ≠ O ∧ d ≠ D ∧ d ≠ X ∧ F ≠ O ∧ F ≠ D ∧ F ≠ X ∧ O ≠ D ∧ O ≠ X ∧ D ≠ X
  chgs : ∀ k, chg.ownBlock = some k → k ≠ d ∧ k ≠ F ∧ k ≠ O ∧ k ≠ D ∧ k ≠ X
  low : n0 ≤ d ∧ n0 ≤ F ∧ n0 ≤ O ∧ n0 ≤ D ∧ n0 ≤ X
def file0 : Array Value := #[.slice none 0 0, .int .i64 0, .slice none 0 0]
/-- The blocks that a Create may write. -/
def CrS (d F D : Nat) (chg : Value) (k : Nat) : Prop := k = d ∨ k = F ∨ k = D ∨ chg.ownBlock = some k
theorem ne_empty {s : ByteArray} (h : 1 ≤ s.size) : s.toList.isEmpty = false := by
  rw [Lib.toList_data]
  cases e : s.data.toList with
  | nil => rw [Lib.size_eq, e] at h; simp at h
  | cons a l => rfl
theorem own_grow {S : Nat → Prop} {w w' : World} {base : Nat} {e : TypeId} {size : Nat} {v : Value} {n : Nat} {xs : List Value} (h : w.ownsRow base e size v n xs) (hg : Grow S w w') (hn : ∀ k, v.ownBlock = some k → ¬ S k) : w'.ownsRow base e size v n xs := by
  refine ⟨h.1, ?_⟩
  rcases h.2 with h2 | ⟨g, cap, cur, rfl, hb, hg2, rest⟩
  · exact .inl h2
  · exact .inr ⟨g, cap, cur, rfl, hb, (hg.block g (Array.getElem?_eq_some_iff.1 hg2).1 (hn g (by simp [Value.ownBlock]))).trans hg2, rest⟩
theorem create_end {n0 : Nat} {w w1 w2 : World} {d F O D X : Nat} {room next : Int} {nf no nd nx m : Nat} {ff oo dd xx : DataW Value} {chg chg' : Value} {xs : List Value} {s : ByteArray} {fm : DataW Value}
    (h : DkS n0 w d F O D X room next nf no nd nx m ff oo dd xx chg xs) (hg : Grow (fun k => k = F) w w1) (hm : MapAt w1 Try.prog 3 F (nf + 1) fm) (hf : w1.heap[w.heap.size]? = some (.cells file0 69 (0, 0)))
    (hc : ChgEnd w1 w2 d F O D X nd m n0 room next chg dd xs ⟨#[]⟩ s next chg') :
    DkS n0 (w2.setCell ⟨d, 2, none⟩ (.int .i64 (next + 1))) d F O D X room (next + 1) (nf + 1) no (nd + 1) nx (m + 1) fm oo (doD dd ⟨#[]⟩ s next) xx chg' (xs ++ [.string ⟨#[]⟩, .string s, .int .i64 next]) ∧
      (w2.setCell ⟨d, 2, none⟩ (.int .i64 (next + 1))).heap[w.heap.size]? = some (.cells file0 69 (0, 0)) ∧ Grow (CrS d F D chg) w (w2.setCell ⟨d, 2, none⟩ (.int .i64 (next + 1))) := by
  obtain ⟨a1, a2, a3, a4, a5, a6, a7, a8, a9, a10⟩ := h.apart
  have hdl := h.on.lt
  have hcl : ∀ k, chg.ownBlock = some k → k < w.heap.size := fun k hk => (h.own.lt k hk).2
  have g2 : Grow (fun k => k = d ∨ k = D ∨ chg.ownBlock = some k) w1 (w2.setCell ⟨d, 2, none⟩ (.int .i64 (next + 1))) := hc.grow.setCell _ _ (fun _ => .inl rfl)
  have hs := hg.size
  have hno : ∀ k, chg'.ownBlock = some k → k ≠ d ∧ k ≠ F ∧ k ≠ O ∧ k ≠ D ∧ k ≠ X := fun k hk => by
    rcases hc.far k hk with hk | hk
    · exact h.chgs k hk
    · have := h.files.lt; have := h.olds.lt; have := h.dir.lt; have := h.fixed.lt
      omega
  refine ⟨⟨hc.on.setNext _, ?_, ?_, ?_, ?_, ?_, h.apart, hno, h.low⟩, ?_, ?_⟩
  · exact hm.grow g2 (by rintro (e | e | e); exact a1 e.symm; exact a6 e; exact (h.chgs F e).2.1 rfl)
  · exact (h.olds.grow hg (fun e => a5 e.symm)).grow g2 (by rintro (e | e | e); exact a2 e.symm; exact a8 e; exact (h.chgs O e).2.2.1 rfl)
  · exact hc.dir.setCell (a := ⟨d, 2, none⟩) (fun e => a3 e.symm) _
  · exact (h.fixed.grow hg (fun e => a7 e.symm)).grow g2 (by rintro (e | e | e); exact a4 e.symm; exact a10 e.symm; exact (h.chgs X e).2.2.2.2 rfl)
  · exact hc.own.kept (grown_setCell w2 ⟨d, 2, none⟩ _) (by
      cases e : chg'.ownBlock with
      | none => exact .inl rfl
      | some k => right; have := (hno k e).1; simpa using this)
  · exact (g2.block w.heap.size (Array.getElem?_eq_some_iff.1 hf).1 (by rintro (e | e | e); omega; have := h.dir.lt; omega; have := hcl _ e; omega)).trans hf
  · exact (hg.mono (fun k _ e => .inr (.inl e))).trans (g2.mono (fun k _ e => by rcases e with e | e | e; exact .inl e; exact .inr (.inr (.inl e)); exact .inr (.inr (.inr e))))
set_option maxRecDepth 100000 in
set_option maxHeartbeats 2000000 in
theorem create_any {n0 : Nat} {w : World} {d F O D X : Nat} {room next : Int} {nf no nd nx m : Nat} {ff oo dd xx : DataW Value} {chg : Value} {xs : List Value} (s : ByteArray)
    (h : DkS n0 w d F O D X room next nf no nd nx m ff oo dd xx chg xs) (hs : 1 ≤ s.size ∧ s.size ≤ 64) (hnext : (Lit.int .i64 next).wf = true) (hb : nf ≤ 1000000 ∧ nd ≤ 1000000 ∧ m ≤ 1000000) (hx : next + 1 ≤ 1000000 ∧ 0 ≤ next)
    (hnot : Maps.has dd (.string s.data.toList) = false) (hat : dd.atKey (.string s.data.toList) (.held (.int .i64 0)) = .held (.int .i64 0)) (hlen : (Maps.size dd : Int) < 256) :
    Calls Try.prog 6 #[.pointer (some ⟨d, 0, none⟩), .string s] w fun e w' => e = .returned (.int .i64 0) ∧ ∃ chg', DkS n0 w' d F O D X room (next + 1) (nf + 1) no (nd + 1) nx (m + 1) (ff.put (.int .i64 next) (.held (.pointer (some ⟨w.heap.size, 0, none⟩)))) oo (doD dd ⟨#[]⟩ s next) xx chg' (xs ++ [.string ⟨#[]⟩, .string s, .int .i64 next]) ∧
      w'.heap[w.heap.size]? = some (.cells file0 69 (0, 0)) ∧ Grow (CrS d F D chg) w w' := by
  have HR := Lib.hid (ready_ok h.on)
  have HV := Lib.hid (valid_ok w s hs.1 hs.2)
  have HS := Lib.hid h
  have ks := Lib.hid (keyOf_string_mk (P := Try.prog) Try.underlying9 (show s.size ≤ maxLen by unfold maxLen; omega))
  have ki := Lib.hid (keyOf_int_mk (P := Try.prog) Try.underlying3 hnext)
  have hl : d < w.heap.size := h.on.lt
  obtain ⟨-, -, c2, c3, -, c5, -, -, -, -⟩ := h.on.cells
  have HNot := Lib.hid hnot
  have HSz := Lib.hid hs
  have HNe := Lib.hid (ne_empty hs.1)
  have HAt := Lib.hid hat
  have hb1 : nf < maxLen := by unfold maxLen; omega
  clear h hs hnext hnot hat
  go_enter Try.func6, Try.ntmps6
  go_wp2_with fail
  refine HR.out.mono ?_
  rintro e w1 ⟨rfl, rfl⟩
  go_wp2_with fail
  refine HV.out.mono ?_
  rintro e w1 ⟨rfl, rfl⟩
  go_wp2_with (first
    | (at_lookup; refine wpList_lookup_ok_any _ rfl _ _ 62 rfl 9 3 keyS Try.underlying62 (.int .i64 0) (.int .i64 0) (zeroI _) D nd dd rfl HS.out.dir _ _ rfl ks.out HAt.out false HNot.out ?_)
    | (at_len; refine wpList_len_own _ rfl _ 62 rfl 9 3 Try.underlying62 heldE D nd dd rfl HS.out.dir ?_))
  have HC1 := Lib.hid (show (w.alloc (.cells #[.slice none 0 0, .int .i64 0, .slice none 0 0] 69)).drew.cell? ⟨d, 3, none⟩ = some (.map (some F)) ∧ (w.alloc (.cells #[.slice none 0 0, .int .i64 0, .slice none 0 0] 69)).drew.cell? ⟨d, 2, none⟩ = some (.int .i64 next) from ⟨(World.cell?_alloc_lt w _ _ hl).trans c3, (World.cell?_alloc_lt w _ _ hl).trans c2⟩)
  have HF := Lib.hid (show MapAt (w.alloc (.cells #[.slice none 0 0, .int .i64 0, .slice none 0 0] 69)).drew Try.prog 3 F nf ff from HS.out.files.alloc _)
  have hdF : some d ≠ some F := by have := HS.out.apart.1; simpa using this
  obtain ⟨w1, hrun, hm1, hg1⟩ := World.ownsMap.update HF.out keyI Try.underlying59 hb1 ki.out (val := .pointer (some ⟨w.heap.size, 0, none⟩)) (d := .held (.pointer (some ⟨w.heap.size, 0, none⟩))) (ps := []) rfl
  have hl1 : d < w1.heap.size := Nat.lt_of_lt_of_le (by simp; omega) hg1.size
  go_region_held3 (fun W => W.cell? ⟨d, 3, none⟩ = some (.map (some F)) ∧ W.cell? ⟨d, 2, none⟩ = some (.int .i64 next)) (first | exact ⟨c3, c2⟩ | exact HC1.out | exact ⟨hg1.cell HC1.out.1 hdF, hg1.cell HC1.out.2 hdF⟩) (fail)
  have G1 := Lib.hid (show Grow (fun k => k = F) w w1 from (((Grow.refl _ w).alloc (.cells #[.slice none 0 0, .int .i64 0, .slice none 0 0] 69)).drew).trans (Grow.of_grown hg1 (fun k h _ => (Option.some.inj h).symm)))
  have HM1 := Lib.hid (show MapAt w1 Try.prog 3 F (nf + 1) (ff.put (.int .i64 next) (.held (.pointer (some ⟨w.heap.size, 0, none⟩)))) from hm1)
  have HFil := Lib.hid (show w1.heap[w.heap.size]? = some (.cells file0 69 (0, 0)) from (hg1.block w.heap.size (by simp) (by have := HS.out.files.lt; simp; omega)).trans (heap_alloc_new w _))
  have HOn := Lib.hid (HS.out.on.grow G1.out HS.out.apart.1)
  have HOw := Lib.hid (own_grow HS.out.own G1.out (fun k hk => (HS.out.chgs k hk).2.1))
  have HDi := Lib.hid (HS.out.dir.grow G1.out (fun e => HS.out.apart.2.2.2.2.2.1 e.symm))
  obtain ⟨-, -, c2', -, -, -, -, -, -, -⟩ := HOn.out.cells
  have hss : w.heap.size ≤ w1.heap.size := G1.out.size
  clear hrun hm1 hg1 HF HC1 c2 c3 c5 hdF hb1
  go_wp2_with fail
  refine (change_any ⟨#[]⟩ s next HOn.out HDi.out HOw.out (by unfold maxLen; omega) hb.2.2 (by have := HS.out.low.1; omega) (fun e => HS.out.apart.2.2.1 e.symm) (fun e => (HS.out.chgs _ e).1 rfl) (fun e => (HS.out.chgs _ e).2.2.2.1 rfl) (by decide) (by have := HSz.out.2; unfold maxLen; omega) (HNe.out)).mono ?_
  rintro e w2 ⟨rfl, chg', hce⟩
  have HCe := Lib.hid hce
  obtain ⟨-, -, d2, -, -, -, -, -, -, -⟩ := hce.on.cells
  have f2 := hce.on.loose 2
  clear hce c2'
  go_wp2_with fail
  refine (done_ok (HCe.out.on.setNext (next + 1))).mono ?_
  rintro e w3 ⟨rfl, rfl⟩
  go_wp2_with fail
  go_ret
  exact ⟨rfl, chg', create_end HS.out G1.out HM1.out HFil.out HCe.out⟩
end Go.Proofs.Ytnmeehhjfcciiaa
