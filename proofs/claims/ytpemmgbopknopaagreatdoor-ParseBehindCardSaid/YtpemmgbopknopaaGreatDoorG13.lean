/-
  The laws' cut; the document's Words at any text; what a text with other gaps is.
  Rows put one behind the other: the cells of a row, an append of a row that is read; a drawn region walked by its states.
  The law ParseBehind: what a text is answered, whichever it is; the ways of two texts.
  Three rows built side by side in a drawn region: what holds in each state.
  Single operations of a drawn region, each by itself: the empty literal, a new struct, a struct put together.
-/
import Derived.Test.YtpemmgbopknopaaGreatDoorG12
import Derived.Test.YtpemmgbopknopaaGreatDoorG10
import Derived.Deep.RegionHeld
import Derived.Deep.AppendSrc
namespace Go.Proofs.YtpemmgbopknopaaGreatDoor
section
open Go Go.RowKit Go.Shelf

set_option maxRecDepth 100000 in
theorem pcut_any (s : ByteArray) (w : World) (hm : s.size ≤ maxLen) : ∃ C : ByteArray, (C.size ≤ 1500 ∨ 65536 < C.size ∧ C.size ≤ maxLen) ∧ Calls Tryz.prog 9 #[.string s] w fun e w' => e = .returned (.string C) ∧ w = w' := by
  unfold maxLen at hm
  by_cases h1 : 1500 < s.size
  · have h1' : (1500 : Int) < (s.size : Int) := by omega
    by_cases h2 : s.size ≤ 65536
    · have h2' : (s.size : Int) ≤ 65536 := by omega
      have h3 : (1500 : Int) ≤ (s.size : Int) := by omega
      refine ⟨s.extract 0 1500, .inl (by rw [ByteArray.size_extract]; omega), ?_⟩
      go_enter Tryz.func9, Tryz.ntmps9
      go_wp2_with fail
      go_ret
      exact ⟨rfl, rfl⟩
    · have h2' : ¬ (s.size : Int) ≤ 65536 := by omega
      refine ⟨s, .inr ⟨by omega, hm⟩, ?_⟩
      go_enter Tryz.func9, Tryz.ntmps9
      go_wp2_with fail
      go_ret
      exact ⟨rfl, rfl⟩
  · have h1' : ¬ (1500 : Int) < (s.size : Int) := by omega
    refine ⟨s, .inl (by omega), ?_⟩
    go_enter Tryz.func9, Tryz.ntmps9
    go_wp2_with fail
    go_ret
    exact ⟨rfl, rfl⟩
/-- The contract of the document's Words (text LxX). -/
def RWords : Prop := ∀ (s : ByteArray) (w : World), s.size ≤ 1000000 →
    Calls Tryz.prog 12 #[.string s] w fun e w' => (∃ v, e = .returned (.tuple #[v, .int .i64 ((wordsL s.data.toList).2.1 : Int), .int .i64 (wordsL s.data.toList).2.2]) ∧ OwnW w.heap.size w' v (wordsL s.data.toList).1) ∧ Below w.heap.size w w'
set_option maxRecDepth 100000 in
theorem rwords_full (HR : RWords) (s : ByteArray) (w : World) (hm : s.size ≤ 1000000 ∨ 65536 < s.size ∧ s.size ≤ maxLen) :
    Calls Tryz.prog 12 #[.string s] w fun e w' => (∃ v, e = .returned (.tuple #[v, .int .i64 ((wordsL s.data.toList).2.1 : Int), .int .i64 (wordsL s.data.toList).2.2]) ∧ OwnW w.heap.size w' v (wordsL s.data.toList).1) ∧ Below w.heap.size w w' := by
  rcases hm with hm | ⟨hlong, hm⟩
  · exact HR s w hm
  · unfold maxLen at hm
    have hl' : (65536 : Int) < (s.size : Int) := by omega
    have HE := Lib.hid (show wordsL s.data.toList = ([], 0, 2) by unfold wordsL; rw [if_pos (by rw [← Lib.size_eq]; exact hlong)])
    rw [HE.out]
    go_enter Tryz.func12, Tryz.ntmps12
    go_wp2_with fail
    refine bodyPost_ret (v := .tuple #[.slice none 0 0, .int .i64 0, .int .i64 2]) (by simp [results, Tryz.results12, go_sem]) rfl ⟨⟨_, rfl, OwnW.nil _ _⟩, Below.refl _ _⟩
theorem ownG_in {w w' : World} {v : Value} {L : List Wd} (h : OwnW w.heap.size w' v L) : WIn (fun k => w.heap.size ≤ k ∧ k < w'.heap.size) w' v L := h.in_ _ (fun k e => h.lt k e)
theorem gapB_snoc (y x : List UInt8) : ∀ a : List (List UInt8), gapB y (a ++ [x]) = gapB y a ++ (x ++ y)
  | [] => by simp [gapB]
  | t :: ts => by
    show t ++ (y ++ gapB y (ts ++ [x])) = (t ++ (y ++ gapB y ts)) ++ (x ++ y)
    rw [gapB_snoc y x ts]
    simp only [List.append_assoc]
theorem lexS_txt {V : List UInt8 → Option VL} : ∀ (N : Nat) (l : List UInt8) (p : Nat), l.length ≤ N → ∀ w ∈ (lexS V l p).1, w.text.length ≤ l.length := by
  intro N
  induction N with
  | zero =>
    intro l p hl
    obtain rfl : l = [] := List.eq_nil_of_length_eq_zero (by omega)
    rw [lexS_end (by simp [skC])]
    intro w hw
    cases hw
  | succ N ih =>
    intro l p hl
    cases e : l.drop (skC false l) with
    | nil => rw [lexS_end e]; intro w hw; cases hw
    | cons c r =>
      have h3 : (l.drop (skC false l)).length = r.length + 1 := by rw [e]; rfl
      rw [List.length_drop] at h3
      rw [lexS_at e]
      cases ht : tokL V (c :: r) with
      | none => rw [lexG_bad ht]; intro w hw; cases hw
      | some q =>
        obtain ⟨k, n, v⟩ := q
        obtain ⟨h1, h2, -⟩ := tok_len ht
        have i := ih ((c :: r).drop n) (p + skC false l + n) (by rw [List.length_drop, List.length_cons]; omega)
        rw [List.length_drop, List.length_cons] at i
        rw [lexG_tok ht]
        intro w hw
        rcases List.mem_cons.1 hw with rfl | hw
        · simp only [List.length_take, List.length_cons]
          omega
        · have := i w hw
          omega
/-- A text without line ends and not long. -/
def NoNl (c : ByteArray) : Prop := c.size ≤ 20 ∧ ∀ x ∈ c.data.toList, x ≠ 10
/-- The text built of so many words. -/
def Built (c : ByteArray) (L : List Wd) (k : Nat) (T : ByteArray) : Prop :=
  T.size ≤ 22 + k * 1530 ∧ T.data.toList = headOf c.data.toList ++ gapB (gapOf c.data.toList) ((L.take k).map Wd.text)
theorem Built.head {c : ByteArray} (hc : NoNl c) (L : List Wd) : Built c L 0 ((⟨#[37]⟩ : ByteArray) ++ c ++ ⟨#[10]⟩) := by
  have h := hc.1
  refine ⟨?_, ?_⟩
  · simp only [ByteArray.size_append]
    have h1 : (⟨#[37]⟩ : ByteArray).size = 1 := rfl
    have h2 : (⟨#[10]⟩ : ByteArray).size = 1 := rfl
    omega
  · simp [headOf, gapB]
theorem Built.step {c : ByteArray} (hc : NoNl c) {L : List Wd} {k : Nat} {T : ByteArray} (h : Built c L k T) (hk : k < L.length) (ht : L[k].text.length ≤ 1500) :
    Built c L (k + 1) (T ++ ⟨L[k].text.toArray⟩ ++ ⟨#[9, 32, 37]⟩ ++ c ++ ⟨#[10, 13]⟩) := by
  have h0 := hc.1
  have h4 := h.1
  refine ⟨?_, ?_⟩
  · simp only [ByteArray.size_append]
    have h1 : (⟨#[9, 32, 37]⟩ : ByteArray).size = 3 := rfl
    have h2 : (⟨#[10, 13]⟩ : ByteArray).size = 2 := rfl
    have h3 : (⟨L[k].text.toArray⟩ : ByteArray).size = L[k].text.length := by simp [ByteArray.size]
    omega
  · have e : (L.take (k + 1)).map Wd.text = (L.take k).map Wd.text ++ [L[k].text] := by
      rw [List.take_succ_eq_append_getElem hk, List.map_append]
      rfl
    rw [e, gapB_snoc, ← List.append_assoc, ← h.2]
    simp [gapOf]
theorem Built.all {c : ByteArray} {L : List Wd} {T : ByteArray} (h : Built c L L.length T) : T.data.toList = headOf c.data.toList ++ gapB (gapOf c.data.toList) (L.map Wd.text) := by
  have := h.2
  rwa [List.take_length] at this
theorem NoNl.cut {c : ByteArray} {k : Nat} (h0 : c.size ≤ 20) (hk : k ≤ c.size) (h : ∀ j (hj : j < c.size), j < k → c[j] ≠ 10) : NoNl (c.extract 0 k) := by
  refine ⟨by rw [ByteArray.size_extract]; omega, fun x hx => ?_⟩
  have e : (c.extract 0 k).data.toList = c.data.toList.take k := by
    have := cut_list c 0 k
    rw [Nat.zero_add, List.drop_zero] at this
    rw [this]
  rw [e] at hx
  obtain ⟨j, hj, rfl⟩ := List.mem_iff_getElem.1 hx
  rw [List.length_take] at hj
  rw [List.getElem_take]
  exact h j (by rw [Lib.size_eq]; omega) (by omega)
theorem NoNl.all {c : ByteArray} (h0 : c.size ≤ 20) (h : ∀ j (hj : j < c.size), j < c.size → c[j] ≠ 10) : NoNl c := by
  refine ⟨h0, fun x hx => ?_⟩
  obtain ⟨j, hj, rfl⟩ := List.mem_iff_getElem.1 hx
  exact h j (by rw [Lib.size_eq]; omega) (by rw [Lib.size_eq]; omega)
end
section
open Go Go.RowKit Go.Shelf

section
variable {α : Type}
/-- A list of cells holds things, one behind the other. -/
def CellsOf (Y : Lay α) (S : Nat → Prop) (w : World) (us : List Value) (L : List α) : Prop :=
  us.length = L.length * Y.sz ∧ (∀ u ∈ us, u.oneCell' = true) ∧ ∀ j (h : j < L.length), ∃ xs, Y.is S w xs L[j] ∧ ∀ i u, xs[i]? = some u → us[j * Y.sz + i]? = some u
theorem CellsOf.nil (Y : Lay α) (S : Nat → Prop) (w : World) : CellsOf Y S w [] [] := ⟨by simp, by simp, fun j h => by simp at h⟩
theorem CellsOf.keep {Y : Lay α} {S S' : Nat → Prop} {w w' : World} {us : List Value} {L : List α} (h : CellsOf Y S w us L) (hs : w.heap.size ≤ w'.heap.size) (hS : ∀ k, S k → k < w.heap.size → S' k ∧ w'.heap[k]? = w.heap[k]?) : CellsOf Y S' w' us L := by
  refine ⟨h.1, h.2.1, fun j hj => ?_⟩
  obtain ⟨xs, hx, hc⟩ := h.2.2 j hj
  exact ⟨xs, Y.keep hx hs hS, hc⟩
theorem CellsOf.app {Y : Lay α} {S : Nat → Prop} {w : World} {us us' : List Value} {L L' : List α} (h : CellsOf Y S w us L) (h' : CellsOf Y S w us' L') : CellsOf Y S w (us ++ us') (L ++ L') := by
  refine ⟨by rw [List.length_append, List.length_append, h.1, h'.1, Nat.add_mul], fun u hu => ?_, fun j hj => ?_⟩
  · rcases List.mem_append.1 hu with hu | hu
    · exact h.2.1 u hu
    · exact h'.2.1 u hu
  · rw [List.length_append] at hj
    rcases Nat.lt_or_ge j L.length with hlt | hge
    · obtain ⟨xs, hx, hc⟩ := h.2.2 j hlt
      refine ⟨xs, by rw [List.getElem_append_left hlt]; exact hx, fun i u e => ?_⟩
      have := hc i u e
      rw [List.getElem?_append_left (List.getElem?_eq_some_iff.1 this).1]
      exact this
    · obtain ⟨xs, hx, hc⟩ := h'.2.2 (j - L.length) (by omega)
      refine ⟨xs, by rw [List.getElem_append_right hge]; exact hx, fun i u e => ?_⟩
      have e2 : j * Y.sz = us.length + (j - L.length) * Y.sz := by rw [h.1, ← Nat.add_mul]; congr 1; omega
      rw [e2, Nat.add_assoc, List.getElem?_append_right (by omega), Nat.add_sub_cancel_left]
      exact hc i u e
theorem CellsOf.one_ {Y : Lay α} {S : Nat → Prop} {w : World} {us : List Value} {x : α} (h : Y.is S w us x) : CellsOf Y S w us [x] := by
  refine ⟨by rw [Y.len h]; simp, Y.one h, fun j hj => ?_⟩
  obtain rfl : j = 0 := by simp at hj; omega
  exact ⟨us, h, fun i u e => by simpa using e⟩
/-- The cells of a row that is read. -/
theorem RowIn.flat {Y : Lay α} {S : Nat → Prop} {w : World} {v : Value} {L : List α} (h : RowIn Y S w v L) :
    ∃ p c us, v = .slice p L.length c ∧ CellsOf Y S w us L ∧ (L = [] ∨ ∃ b off, p = some ⟨b, off, none⟩ ∧ ∀ i u, us[i]? = some u → w.cell? ⟨b, off + i, none⟩ = some u) := by
  obtain ⟨p, c, rfl, -, -, h⟩ := h
  rcases h with rfl | ⟨b, off, rfl, -, -, h⟩
  · exact ⟨p, c, [], rfl, CellsOf.nil _ _ _, .inl rfl⟩
  · have key : ∀ m, m ≤ L.length → ∃ us, CellsOf Y S w us (L.take m) ∧ ∀ i u, us[i]? = some u → w.cell? ⟨b, off + i, none⟩ = some u := by
      intro m
      induction m with
      | zero => exact fun _ => ⟨[], CellsOf.nil _ _ _, fun i u e => by simp at e⟩
      | succ m ih =>
        intro hm
        obtain ⟨us, h1, h2⟩ := ih (by omega)
        obtain ⟨xs, hx, hc⟩ := h m (by omega)
        refine ⟨us ++ xs, by rw [List.take_succ_eq_append_getElem (by omega)]; exact h1.app (CellsOf.one_ hx), fun i u e => ?_⟩
        have hl : us.length = m * Y.sz := by rw [h1.1, List.length_take, Nat.min_eq_left (by omega)]
        rcases Nat.lt_or_ge i us.length with hlt | hge
        · rw [List.getElem?_append_left hlt] at e
          exact h2 i u e
        · rw [List.getElem?_append_right hge] at e
          have := hc (i - us.length) u e
          rw [← hl, show us.length + (i - us.length) = i by omega] at this
          exact this
    obtain ⟨us, h1, h2⟩ := key L.length (Nat.le_refl _)
    rw [List.take_length] at h1
    exact ⟨_, c, us, rfl, h1, .inr ⟨b, off, rfl, h2⟩⟩
/-- What the call owns reads as a row. -/
theorem rowIn_of_own {Y : Lay α} {S : Nat → Prop} {w : World} {B : Nat} {et : TypeId} {v : Value} {us : List Value} {L : List α} (ho : w.ownsRow B et Y.sz v L.length us) (h : CellsOf Y S w us L) (hS : ∀ k, v.ownBlock = some k → S k) : RowIn Y S w v L := by
  rcases ho.2 with ⟨rfl, e⟩ | ⟨g, cap, cur, rfl, hB, hg, hnc, hcm, -⟩
  · obtain rfl := List.eq_nil_of_length_eq_zero e
    exact RowIn.nil _ _ _
  · refine ⟨_, cap, rfl, hnc, hcm, .inr ⟨g, 0, rfl, hS g rfl, (Array.getElem?_eq_some_iff.1 hg).1, fun j hj => ?_⟩⟩
    obtain ⟨xs, hx, hc⟩ := h.2.2 j hj
    refine ⟨xs, hx, fun i u e => ?_⟩
    have := ho.cells (g := g) rfl (j * Y.sz + i) u (hc i u e)
    rw [addr_add] at this
    exact this
/-- An append of a row that is read, onto a row of the call's own. -/
theorem run_appL (Y : Lay α) (w : World) (B : Nat) (st et ty : TypeId) (z : Value) (by_ : Nat) (hu : Tryz.prog.underlying st = some (.slice et)) (hi : (Tryz.prog.info? et).map (fun i => (i.zero, i.size, i.bytes)) = some (some z, Y.sz, by_)) (hzc : z.cells.size = Y.sz) (hsz : 0 < Y.sz) (hby : by_ ≤ 1000) (v : Value) (n m : Nat) (us us' : List Value) (b off c : Nat)
    (hown : w.ownsRow B et Y.sz v n us) (hl : us'.length = m * Y.sz) (h1 : ∀ u ∈ us', u.oneCell' = true) (hc : ∀ i u, us'[i]? = some u → w.cell? ⟨b, off + i, none⟩ = some u) (hn : n + m ≤ 1000000) (hB : B ≤ w.heap.size) :
    ∃ v' w', (Builtin.append_ #[st, st] ty #[v, .slice (some ⟨b, off, none⟩) m c]).run Tryz.prog w = .ok v' w' ∧ w'.ownsRow B et Y.sz v' (n + m) (us ++ us') ∧ w.grownBy w' v.ownBlock ∧ (v'.ownBlock = v.ownBlock ∨ v'.ownBlock = some w.heap.size) := by
  obtain ⟨i0, hi, hz0, hz1, hz2⟩ := info_parts hi
  have hbytes : (n + m) * by_ ≤ 140737488355328 := by
    have : (n + m) * by_ ≤ 1000000 * 1000 := Nat.mul_le_mul hn hby
    omega
  obtain ⟨v', w', hr, ho', hg, -, hv⟩ := run_append_own_at (P := Tryz.prog) w B st ty et i0 z Y.sz by_ hu hi hz0 hz1 hz2 hzc hsz v n us hown ⟨b, off, none⟩ m c us'
    hl (fun j u hu => by rw [addr_add]; exact hc j u hu) h1 (by unfold maxLen; omega) hbytes hB
  exact ⟨v', w', hr, ho', hg, hv⟩
theorem RowIn.flat2 {Y : Lay α} {S : Nat → Prop} {w : World} {p : Option Addr} {c : Nat} {L : List α} (h : RowIn Y S w (.slice p L.length c) L) :
    ∃ us, CellsOf Y S w us L ∧ (L = [] ∨ ∃ b off, p = some ⟨b, off, none⟩ ∧ ∀ i u, us[i]? = some u → w.cell? ⟨b, off + i, none⟩ = some u) := by
  obtain ⟨p', c', us, e, h1, h2⟩ := h.flat
  injection e with e1 e2 e3
  subst e1
  exact ⟨us, h1, h2⟩
/-- A source of an append: a row that is read. -/
def SrcR (sz : Nat) (w : World) (x : Value) (m : Nat) (us : List Value) : Prop :=
  us.length = m * sz ∧ (∀ u ∈ us, u.oneCell' = true) ∧ ∃ p c, x = .slice p m c ∧ ((p = none ∧ m = 0 ∧ us = []) ∨ ∃ a, p = some a ∧ ∀ j u, us[j]? = some u → w.cell? (a.add j) = some u)
theorem RowIn.src {Y : Lay α} {S : Nat → Prop} {w : World} {p : Option Addr} {c : Nat} {L : List α} (h : RowIn Y S w (.slice p L.length c) L) : ∃ us, CellsOf Y S w us L ∧ SrcR Y.sz w (.slice p L.length c) L.length us := by
  obtain ⟨us, h1, h2⟩ := h.flat2
  refine ⟨us, h1, h1.1, h1.2.1, p, c, rfl, ?_⟩
  rcases h2 with rfl | ⟨b, off, rfl, h3⟩
  · have e : us = [] := List.eq_nil_of_length_eq_zero (by rw [h1.1]; simp)
    subst e
    cases p with
    | none => exact .inl ⟨rfl, rfl, rfl⟩
    | some a => exact .inr ⟨a, rfl, fun j u e => by simp at e⟩
  · exact .inr ⟨_, rfl, fun j u e => by rw [addr_add]; exact h3 j u e⟩
theorem SrcR.below {sz m : Nat} {W w : World} {x : Value} {us : List Value} (h : SrcR sz W x m us) (hb : Below W.heap.size W w) : SrcR sz w x m us := by
  obtain ⟨h1, h2, p, c, rfl, h3⟩ := h
  refine ⟨h1, h2, p, c, rfl, ?_⟩
  rcases h3 with h3 | ⟨a, rfl, h4⟩
  · exact .inl h3
  · exact .inr ⟨a, rfl, fun j u e => (World.cell?_of_block (a := a.add j) (hb.block _ (World.block_lt_of_cell? W _ (h4 j u e)))).trans (h4 j u e)⟩
theorem run_appR (w : World) (B : Nat) (st et ty : TypeId) (z : Value) (sz by_ : Nat) (hu : Tryz.prog.underlying st = some (.slice et)) (hi : (Tryz.prog.info? et).map (fun i => (i.zero, i.size, i.bytes)) = some (some z, sz, by_)) (hzc : z.cells.size = sz) (hsz : 0 < sz) (hby : by_ ≤ 1000) (v x : Value) (n m : Nat) (us us' : List Value)
    (hown : w.ownsRow B et sz v n us) (hv : v ≠ .slice none 0 0) (hx : SrcR sz w x m us') (hn : n + m ≤ 1000000) (hB : B ≤ w.heap.size) :
    ∃ v' w', (Builtin.append_ #[st, st] ty #[v, x]).run Tryz.prog w = .ok v' w' ∧ w'.ownsRow B et sz v' (n + m) (us ++ us') ∧ w.grownBy w' v.ownBlock ∧ (v'.ownBlock = v.ownBlock ∨ v'.ownBlock = some w.heap.size) ∧ v' ≠ .slice none 0 0 := by
  obtain ⟨i0, hi, hz0, hz1, hz2⟩ := info_parts hi
  have hbytes : (n + m) * by_ ≤ 140737488355328 := by
    have : (n + m) * by_ ≤ 1000000 * 1000 := Nat.mul_le_mul hn hby
    omega
  obtain ⟨hl, h1, p, c, rfl, hp⟩ := hx
  rcases hp with ⟨rfl, rfl, rfl⟩ | ⟨a, rfl, hc⟩
  · obtain ⟨g, cap, cur, rfl, hB', hg, hnc, hcm, hcs, htk⟩ : ∃ g cap cur, v = .slice (some ⟨g, 0, none⟩) n cap ∧ B ≤ g ∧ w.heap[g]? = some (.cells cur et (0, 0)) ∧ n ≤ cap ∧ cap ≤ maxLen ∧ cur.size = cap * sz ∧ cur.toList.take (n * sz) = us := by
      rcases hown.2 with ⟨e, -⟩ | h
      · exact absurd e hv
      · obtain ⟨g, cap, cur, h1, h2, h3, h4, h5, h6, h7⟩ := h
        exact ⟨g, cap, cur, h1, h2, h3, h4, h5, h6, h7⟩
    have hr := run_append_room_src (P := Tryz.prog) (w := w) st st ty et i0 hu hi g 0 n cap (.slice none 0 c) 0 [] (Src.ofNil w hu c) (by omega) (fun j hj => by simp at hj) (fun j hj => by simp at hj)
    refine ⟨_, _, hr, ?_, ⟨rfl, rfl, rfl, Nat.le_refl _, fun k _ _ => rfl⟩, .inl rfl, by intro e; cases e⟩
    rw [List.append_nil, Nat.add_zero]
    exact hown
  · obtain ⟨v', w', hr, ho', hg, hnil, hv'⟩ := run_append_own_at (P := Tryz.prog) w B st ty et i0 z sz by_ hu hi hz0 hz1 hz2 hzc hsz v n us hown a m c us'
      hl hc h1 (by unfold maxLen; omega) hbytes hB
    exact ⟨v', w', hr, ho', hg, hv', fun e => hv (hnil.1 e).1⟩
end
/-- A drawn region walked by its states: each operation that may come up leads from state to state. -/
theorem wpAnyH_states {P : Program} {ops : Array Oper} {Q : Exit → Act → World → Prop} {md : Region.Mode} {S : World → Prop} {σ : Type} (lst : σ → Array Bool) (left : σ → Nat) (Ok : σ → Prop) (I : σ → Act → World → Prop) (k0 : Nat)
    (hne : ∀ s, Ok s → left s ≠ 0 → Region.ready md ops (lst s) ≠ [])
    (hstep : ∀ s a w, Ok s → left s ≠ 0 → I s a w → ∀ i ∈ Region.ready md ops (lst s), ∃ o s', ops[i]? = some o ∧ Ok s' ∧ left s' + 1 = left s ∧ lst s' = (lst s).setIfInBounds i true ∧
      ∀ K' : Act → World → Prop, (∀ a w, S w → I s' a w → K' a w) → if Region.wanted o (yielded ops a.tmps) = true then Oper.wp P o a w K' Q else K' (a.put o.dst undef) w)
    (hend : ∀ s a w, Ok s → left s = 0 → I s a w → wpAnyH P md ops Q S k0 (lst s) a w) :
    ∀ (n : Nat) (s : σ) (a : Act) (w : World), left s = n → Ok s → I s a w → wpAnyH P md ops Q S (k0 + n) (lst s) a w := by
  intro n
  induction n with
  | zero => intro s a w hn hok hI; exact hend s a w hok hn hI
  | succ n ih =>
    intro s a w hn hok hI
    refine ⟨fun h => absurd h (hne s hok (by omega)), fun i hi => ?_⟩
    obtain ⟨o, s', ho, hok', hl, hs, h⟩ := hstep s a w hok (by omega) hI i hi
    refine wpOp_step ho (fun K' hK => h K' (fun a' w' hS hI' => hK a' w' ⟨hS, ?_⟩))
    rw [← hs]
    exact ih s' a' w' (by omega) hok' hI'
/-! Frames -/
/-- A frame with some slots set. -/
def over (A : Act) (f : Nat → Option Value) : Act := { A with tmps := A.tmps.mapIdx fun i x => (f i).getD x }
theorem over_none (A : Act) (f : Nat → Option Value) (h : ∀ i, f i = none) : over A f = A := by
  obtain ⟨t, d⟩ := A
  unfold over
  simp only [h, Option.getD_none]
  congr 1
  apply Array.ext
  · simp
  · intro i h1 h2
    simp
theorem over_eval (A : Act) (f : Nat → Option Value) (d : Nat) (hd : d < A.tmps.size) : (over A f).eval (.tmp d) = (f d).getD (A.eval (.tmp d)) := by
  unfold over Act.eval
  simp [Array.getD, hd]
theorem over_put (A : Act) (f : Nat → Option Value) (d : Nat) (v : Value) : (over A f).put (some d) v = over A (fun i => if i = d then some v else f i) := by
  unfold over Act.put
  simp only
  congr 1
  apply Array.ext_getElem?
  intro i
  by_cases e : d = i
  · subst e
    by_cases hd : d < A.tmps.size
    · simp [hd]
    · simp [hd]
  · have e' : ¬ i = d := fun h => e h.symm
    simp [e, e']
theorem over_move (A : Act) (f : Nat → Option Value) (d : Nat) (v : Value) (h : f d = some v) : over A f = over (A.put (some d) v) (fun i => if i = d then none else f i) := by
  unfold over Act.put
  simp only
  congr 1
  apply Array.ext_getElem?
  intro i
  by_cases e : d = i
  · subst e
    by_cases hd : d < A.tmps.size
    · simp [hd, h]
    · simp [hd]
  · have e' : ¬ i = d := fun h => e h.symm
    simp [e, e']
/-! States -/
structure St where
  d1 : Nat
  d2 : Nat
  d3 : Nat
  m : Nat
  b : Nat
def stL (s : St) : Array Bool := #[decide (1 ≤ s.d1), true, true, decide (2 ≤ s.d1), true, true, decide (3 ≤ s.d1), decide (1 ≤ s.d2), true, true, decide (2 ≤ s.d2), true, true, decide (3 ≤ s.d2), decide (1 ≤ s.d3), true, true, decide (2 ≤ s.d3), true, true, decide (3 ≤ s.d3), decide (1 ≤ s.b), decide (1 ≤ s.m), false]
def stOk (s : St) : Bool := decide (s.d1 ≤ 3) && decide (s.d2 ≤ 3) && decide (s.d3 ≤ 3) && decide (s.m ≤ 1) && decide (s.b ≤ 1) && (decide (s.d2 < 2) || decide (s.d1 = 3)) && (decide (s.d3 < 2) || decide (s.d2 = 3)) && (decide (s.b < 1) || (decide (s.d3 = 3)))
/-- The operations that may come up. -/
def stR (s : St) : List (Nat × St) :=
  (if s.d1 = 0 then [(0, { s with d1 := 1 })] else []) ++ (if s.d1 = 1 then [(3, { s with d1 := 2 })] else []) ++ (if s.d1 = 2 then [(6, { s with d1 := 3 })] else []) ++
  (if s.d2 = 0 then [(7, { s with d2 := 1 })] else []) ++ (if s.d2 = 1 ∧ s.d1 = 3 then [(10, { s with d2 := 2 })] else []) ++ (if s.d2 = 2 then [(13, { s with d2 := 3 })] else []) ++
  (if s.d3 = 0 then [(14, { s with d3 := 1 })] else []) ++ (if s.d3 = 1 ∧ s.d2 = 3 then [(17, { s with d3 := 2 })] else []) ++ (if s.d3 = 2 then [(20, { s with d3 := 3 })] else []) ++
  (if s.d3 = 3 ∧ s.b = 0 then [(21, { s with b := 1 })] else []) ++ (if s.m = 0 then [(22, { s with m := 1 })] else [])
def stLeft (s : St) : Nat := (3 - s.d1) + (3 - s.d2) + (3 - s.d3) + (1 - s.m) + (1 - s.b)
/-- One state is as the tables say. -/
def stChk (ops : Array Oper) (s : St) : Bool :=
  !stOk s || decide (stLeft s = 0) || (Region.ready .any ops (stL s) == (stR s).map Prod.fst && !(stR s).isEmpty && (stR s).all fun q => stOk q.2 && decide (stLeft q.2 + 1 = stLeft s) && (stL q.2 == (stL s).setIfInBounds q.1 true))
def allChk (ops : Array Oper) : Bool :=
  (List.range 4).all fun d1 => (List.range 4).all fun d2 => (List.range 4).all fun d3 => (List.range 2).all fun m => (List.range 2).all fun b => stChk ops ⟨d1, d2, d3, m, b⟩
theorem chk_at {ops : Array Oper} (h : allChk ops = true) (s : St) (hs : stOk s = true) : stChk ops s = true := by
  obtain ⟨d1, d2, d3, m, b⟩ := s
  unfold allChk at h
  simp only [List.all_eq_true, List.mem_range] at h
  simp only [stOk, Bool.and_eq_true, decide_eq_true_eq] at hs
  exact h d1 (by omega) d2 (by omega) d3 (by omega) m (by omega) b (by omega)
theorem wpAnyH_six {P : Program} {ops : Array Oper} {Q : Exit → Act → World → Prop} {S : World → Prop} (chk : allChk ops = true) (I : St → Act → World → Prop)
    (hstep : ∀ s a w, stOk s = true → I s a w → ∀ q ∈ stR s, ∃ o, ops[q.1]? = some o ∧
      ∀ K' : Act → World → Prop, (∀ a w, S w → I q.2 a w → K' a w) → if Region.wanted o (yielded ops a.tmps) = true then Oper.wp P o a w K' Q else K' (a.put o.dst undef) w)
    (hend : ∀ s a w, stOk s = true → stLeft s = 0 → I s a w → wpAnyH P .any ops Q S 1 (stL s) a w) (a : Act) (w : World) (h : I ⟨0, 0, 0, 0, 0⟩ a w) :
    wpAnyH P .any ops Q S 12 (stL ⟨0, 0, 0, 0, 0⟩) a w := by
  refine wpAnyH_states (σ := St) stL stLeft (fun s => stOk s = true) I 1 ?_ ?_ hend 11 ⟨0, 0, 0, 0, 0⟩ a w rfl rfl h
  · intro s hs hl e
    have := chk_at chk s hs
    simp only [stChk, hs, hl, Bool.not_true, Bool.false_or, decide_false, Bool.and_eq_true, beq_iff_eq] at this
    have h2 := this.1.2
    rw [e] at this
    have h3 : stR s = [] := List.map_eq_nil_iff.1 this.1.1.symm
    rw [h3] at h2
    cases h2
  · intro s a w hs hl hI i hi
    have := chk_at chk s hs
    simp only [stChk, hs, hl, Bool.not_true, Bool.false_or, decide_false, Bool.and_eq_true, beq_iff_eq] at this
    rw [this.1.1] at hi
    obtain ⟨q, hq, rfl⟩ := List.mem_map.1 hi
    have h4 := List.all_eq_true.1 this.2 q hq
    simp only [Bool.and_eq_true, decide_eq_true_eq, beq_iff_eq] at h4
    obtain ⟨o, ho, h5⟩ := hstep s a w hs hI q hq
    exact ⟨o, q.2, ho, h4.1.1, h4.1.2, h4.2, h5⟩
end
section
open Go Go.RowKit Go.Shelf

set_option maxRecDepth 100000 in
theorem pcut_le (s : ByteArray) (M : Nat) (hm : s.size ≤ M) : ∃ C : ByteArray, (C.size ≤ 1500 ∨ 65536 < C.size) ∧ C.size ≤ M ∧ ∀ w, Calls Tryz.prog 9 #[.string s] w fun e w' => e = .returned (.string C) ∧ w = w' := by
  by_cases h1 : 1500 < s.size
  · have h1' : (1500 : Int) < (s.size : Int) := by omega
    by_cases h2 : s.size ≤ 65536
    · have h2' : (s.size : Int) ≤ 65536 := by omega
      have h3 : (1500 : Int) ≤ (s.size : Int) := by omega
      refine ⟨s.extract 0 1500, .inl (by rw [ByteArray.size_extract]; omega), by rw [ByteArray.size_extract]; omega, fun w => ?_⟩
      clear hm h1 h2
      go_enter Tryz.func9, Tryz.ntmps9
      go_wp2_with fail
      go_ret
      exact ⟨rfl, rfl⟩
    · have h2' : ¬ (s.size : Int) ≤ 65536 := by omega
      refine ⟨s, .inr (by omega), hm, fun w => ?_⟩
      clear hm h1 h2
      go_enter Tryz.func9, Tryz.ntmps9
      go_wp2_with fail
      go_ret
      exact ⟨rfl, rfl⟩
  · have h1' : ¬ (1500 : Int) < (s.size : Int) := by omega
    refine ⟨s, .inl (by omega), hm, fun w => ?_⟩
    clear hm h1
    go_enter Tryz.func9, Tryz.ntmps9
    go_wp2_with fail
    go_ret
    exact ⟨rfl, rfl⟩
/-- What a text is answered: a program, a place, a code. -/
def ShowN (P : PrL) (n : Nat) (code : Int) (w : World) (y : Ending) (w' : World) : Prop :=
  Below w.heap.size w w' ∧ ∃ q0 k0 q1 k1 q2 k2, y = .returned (.tuple #[.agg #[.slice q0 P.decls.length k0, .slice q1 P.ons.length k1, .slice q2 P.rules.length k2], .int .i64 n, .int .i64 code]) ∧
    RowIn deY (fun _ => True) w' (.slice q0 P.decls.length k0) P.decls ∧ RowIn onY (fun _ => True) w' (.slice q1 P.ons.length k1) P.ons ∧ RowIn ruY (fun _ => True) w' (.slice q2 P.rules.length k2) P.rules
/-- The ways of a text. -/
def WaysN (s : ByteArray) (P : PrL) (n : Nat) (code : Int) : Prop :=
  (code = 0 ∧ s.size ≤ 65536 ∧ ∃ cs, sayOf valL progR s.data.toList = .ok cs ∧ P = ofCs cs) ∨ (code = 130 ∧ s.size ≤ 65536 ∧ sayOf valL progR s.data.toList = .bad n) ∨ (code = 120 ∧ s.size ≤ 65536 ∧ sayOf valL progR s.data.toList = .lex n) ∨ (code = 2 ∧ 65536 < s.size)
theorem show_n (s : ByteArray) : ∃ P n code, WaysN s P n code ∧ ∀ W, Glob W → Calls Tryz.prog 10 #[.string s] W (ShowN P n code W) := by
  have zero : ∀ (W W' : World) (n : Nat) (code : Int), Below W.heap.size W W' → ShowN (ofCs []) n code W (.returned (.tuple #[.agg #[.slice none 0 0, .slice none 0 0, .slice none 0 0], .int .i64 n, .int .i64 code])) W' := fun W W' n code hb =>
    ⟨hb, none, 0, none, 0, none, 0, rfl, RowIn.nil _ _ _, RowIn.nil _ _ _, RowIn.nil _ _ _⟩
  by_cases hl : 65536 < s.size
  · refine ⟨ofCs [], 0, 2, .inr (.inr (.inr ⟨rfl, hl⟩)), fun W G => (parseProgram_any s W G).mono fun y W' h => ?_⟩
    obtain ⟨hb, ⟨hs, -⟩ | ⟨hs, -⟩ | ⟨hs, -⟩ | ⟨-, rfl⟩⟩ := h
    · omega
    · omega
    · omega
    · exact zero _ _ 0 2 hb
  have hs : s.size ≤ 65536 := by omega
  cases e : sayOf valL progR s.data.toList with
  | ok cs =>
    refine ⟨ofCs cs, 0, 0, .inl ⟨rfl, hs, cs, e, rfl⟩, fun W G => (parseProgram_any s W G).mono fun y W' h => ?_⟩
    obtain ⟨hb, ⟨-, a, v, hsay, rfl, hv⟩ | ⟨-, n, hsay, rfl⟩ | ⟨-, n, hsay, rfl⟩ | ⟨hl, rfl⟩⟩ := h
    rotate_left
    · exact absurd (hsay.symm.trans e) (by intro e; cases e)
    · exact absurd (hsay.symm.trans e) (by intro e; cases e)
    · omega
    obtain rfl : a = cs := by have := hsay.symm.trans e; injection this
    obtain ⟨u, x, y, rfl, g1, g2, g3⟩ := hv
    obtain ⟨q0, k0, rfl⟩ := g1.shape
    obtain ⟨q1, k1, rfl⟩ := g2.shape
    obtain ⟨q2, k2, rfl⟩ := g3.shape
    exact ⟨hb, q0, k0, q1, k1, q2, k2, rfl, g1.keep (Nat.le_refl _) fun _ _ _ => ⟨True.intro, rfl⟩, g2.keep (Nat.le_refl _) fun _ _ _ => ⟨True.intro, rfl⟩, g3.keep (Nat.le_refl _) fun _ _ _ => ⟨True.intro, rfl⟩⟩
  | bad m =>
    refine ⟨ofCs [], m, 130, .inr (.inl ⟨rfl, hs, e⟩), fun W G => (parseProgram_any s W G).mono fun y W' h => ?_⟩
    obtain ⟨hb, ⟨-, a, v, hsay, rfl, hv⟩ | ⟨-, n, hsay, rfl⟩ | ⟨-, n, hsay, rfl⟩ | ⟨hl, rfl⟩⟩ := h
    · exact absurd (hsay.symm.trans e) (by intro e; cases e)
    · obtain rfl : n = m := by have := hsay.symm.trans e; injection this
      exact zero _ _ _ _ hb
    · exact absurd (hsay.symm.trans e) (by intro e; cases e)
    · omega
  | lex m =>
    refine ⟨ofCs [], m, 120, .inr (.inr (.inl ⟨rfl, hs, e⟩)), fun W G => (parseProgram_any s W G).mono fun y W' h => ?_⟩
    obtain ⟨hb, ⟨-, a, v, hsay, rfl, hv⟩ | ⟨-, n, hsay, rfl⟩ | ⟨-, n, hsay, rfl⟩ | ⟨hl, rfl⟩⟩ := h
    · exact absurd (hsay.symm.trans e) (by intro e; cases e)
    · exact absurd (hsay.symm.trans e) (by intro e; cases e)
    · obtain rfl : n = m := by have := hsay.symm.trans e; injection this
      exact zero _ _ _ _ hb
    · omega
theorem ofCs_app (a b : List ClL) : (ofCs (a ++ b)).decls = (ofCs a).decls ++ (ofCs b).decls ∧ (ofCs (a ++ b)).ons = (ofCs a).ons ++ (ofCs b).ons ∧ (ofCs (a ++ b)).rules = (ofCs a).rules ++ (ofCs b).rules := by
  refine ⟨?_, ?_, ?_⟩ <;> simp [ofCs, List.filterMap_append]
/-- The text of both. -/
theorem both_list (C D : ByteArray) : (C ++ ⟨#[10]⟩ ++ D).data.toList = C.data.toList ++ 10 :: D.data.toList := by simp
end
section
open Go Go.RowKit Go.Shelf

/-- An append of a row at a step of a drawn region. -/
theorem step_appR {ops : Array Oper} {o : Oper} {a : Act} {w : World} {K : Act → World → Prop} {Q : Exit → Act → World → Prop} {E : Prop} (hgd : o.guard = none) (s y : Operand) (st et : TypeId)
    (ho : o.op = .call { callee := .builtin .append, args := #[s, y], argTypes := #[st, st] }) (B : Nat) (z : Value) (sz by_ : Nat) (hu : Tryz.prog.underlying st = some (.slice et)) (hi : (Tryz.prog.info? et).map (fun i => (i.zero, i.size, i.bytes)) = some (some z, sz, by_)) (hzc : z.cells.size = sz) (hsz : 0 < sz) (hby : by_ ≤ 1000) (v x : Value) (n m : Nat) (us us' : List Value)
    (hs : a.eval s = v) (hx : a.eval y = x) (hown : w.ownsRow B et sz v n us) (hv : v ≠ .slice none 0 0) (hsrc : SrcR sz w x m us') (hn : n + m ≤ 1000000) (hB : B ≤ w.heap.size)
    (h : ∀ v' w', w'.ownsRow B et sz v' (n + m) (us ++ us') → w.grownBy w' v.ownBlock → (v'.ownBlock = v.ownBlock ∨ v'.ownBlock = some w.heap.size) → v' ≠ .slice none 0 0 → K (a.put o.dst v') w') : if Region.wanted o (yielded ops a.tmps) = true then Oper.wp Tryz.prog o a w K Q else E := by
  have hw : Region.wanted o (yielded ops a.tmps) = true := by simp [Region.wanted, hgd]
  rw [if_pos hw]
  obtain ⟨v', w', hr, h2, h3, h4, h5⟩ := run_appR w B st et o.type z sz by_ hu hi hzc hsz hby v x n m us us' hown hv hsrc hn hB
  unfold Oper.wp execOp
  simp only [ho, resolve, invoke, builtin, Sem.run_bind, Sem.run_pure, Result.andThen_ok, List.map_toArray, List.map_cons, List.map_nil, hs, hx, hr]
  exact h v' w' h2 h3 h4 h5
/-- Two blocks are not one. -/
def Dj (a b : Option Nat) : Prop := ∀ k, a = some k → b = some k → False
theorem Dj.symm {a b : Option Nat} (h : Dj a b) : Dj b a := fun k h1 h2 => h k h2 h1
theorem Dj.fresh {w : World} {a b c : Option Nat} (h : Dj a b) (hc : c = a ∨ c = some w.heap.size) (hlt : ∀ k, b = some k → k < w.heap.size) : Dj c b := by
  intro k h1 h2
  rcases hc with rfl | rfl
  · exact h k h1 h2
  · injection h1 with h1
    have := hlt k h2
    omega
def cn (d n n' : Nat) : Nat := if d ≤ 1 then 0 else if d = 2 then n else n + n'
def cu (d : Nat) (u u' : List Value) : List Value := if d ≤ 1 then [] else if d = 2 then u else u ++ u'
/-- A chain: nothing yet, an empty row, the first row, both. -/
structure Chn (B : Nat) (w : World) (et : TypeId) (d : Nat) (v : Value) (n : Nat) (u : List Value) (n' : Nat) (u' : List Value) (oa ob oc : Option Value) : Prop where
  own : w.ownsRow B et 3 v (cn d n n') (cu d u u')
  zero : d = 0 → v = .slice none 0 0
  some_ : 1 ≤ d → v ≠ .slice none 0 0
  a : d = 1 → oa = some v
  b : d = 2 → ob = some v
  c : d = 3 → oc = some v
  ha : 1 ≤ d → oa.isSome = true
  hb : 2 ≤ d → ob.isSome = true
section
variable {B : Nat} {w w' : World} {et : TypeId} {d : Nat} {v v' : Value} {n : Nat} {u : List Value} {n' : Nat} {u' : List Value} {oa ob oc : Option Value}
theorem Chn.lt (h : Chn B w et d v n u n' u' oa ob oc) : ∀ k, v.ownBlock = some k → B ≤ k ∧ k < w.heap.size := World.ownsRow.lt h.own
theorem Chn.keep (h : Chn B w et d v n u n' u' oa ob oc) (hb : ∀ k, v.ownBlock = some k → w'.heap[k]? = w.heap[k]?) : Chn B w' et d v n u n' u' oa ob oc := { h with own := ownsRow_keep h.own hb }
theorem Chn.off {o : Option Nat} (h : Chn B w et d v n u n' u' oa ob oc) (hg : w.grownBy w' o) (hd : Dj o v.ownBlock) : Chn B w' et d v n u n' u' oa ob oc := h.keep fun k e => hg.block k (h.lt k e).2 (fun e2 => hd k e2.symm e)
theorem Chn.alloc (h : Chn B w et d v n u n' u' oa ob oc) (o : Obj) : Chn B (w.alloc o) et d v n u n' u' oa ob oc := h.keep fun k e => Below.heap_alloc _ _ _ (h.lt k e).2
theorem Chn.init (B : Nat) (w : World) (et : TypeId) (n : Nat) (u : List Value) (n' : Nat) (u' : List Value) (oa ob oc : Option Value) : Chn B w et 0 (.slice none 0 0) n u n' u' oa ob oc :=
  ⟨World.ownsRow_nil w B et 3, fun _ => rfl, fun h => by omega, fun h => by omega, fun h => by omega, fun h => by omega, fun h => by omega, fun h => by omega⟩
theorem Chn.start (hB : B ≤ w.heap.size) : Chn B (w.alloc (.cells #[] et)) et 1 (.slice (some ⟨w.heap.size, 0, none⟩) 0 0) n u n' u' (some (.slice (some ⟨w.heap.size, 0, none⟩) 0 0)) ob oc :=
  ⟨⟨rfl, .inr ⟨w.heap.size, 0, #[], rfl, hB, heap_alloc_new w _, Nat.le_refl _, Nat.zero_le _, rfl, rfl⟩⟩, fun h => by omega, fun _ e => (by cases e), fun _ => rfl, fun h => by omega, fun h => by omega, fun _ => rfl, fun h => by omega⟩
theorem Chn.one (h : Chn B w et 1 v n u n' u' oa ob oc) (ho : w'.ownsRow B et 3 v' (0 + n) ([] ++ u)) (hne : v' ≠ .slice none 0 0) : Chn B w' et 2 v' n u n' u' oa (some v') oc :=
  ⟨by rw [Nat.zero_add] at ho; exact ho, fun h => by omega, fun _ => hne, fun h => by omega, fun _ => rfl, fun h => by omega, fun _ => h.ha (Nat.le_refl _), fun _ => rfl⟩
theorem Chn.two (h : Chn B w et 2 v n u n' u' oa ob oc) (ho : w'.ownsRow B et 3 v' (n + n') (u ++ u')) (hne : v' ≠ .slice none 0 0) : Chn B w' et 3 v' n u n' u' oa ob (some v') :=
  ⟨ho, fun h => by omega, fun _ => hne, fun h => by omega, fun h => by omega, fun _ => rfl, fun _ => h.ha (by omega), fun _ => h.hb (Nat.le_refl _)⟩
end
/-- The struct of both: not yet, or zero. -/
structure Al (B : Nat) (w : World) (m : Nat) (og : Option Nat) (o17 : Option Value) : Prop where
  no : m = 0 → og = none
  yes : 1 ≤ m → ∃ g, og = some g ∧ B ≤ g ∧ g < w.heap.size ∧ o17 = some (.pointer (some ⟨g, 0, none⟩)) ∧ w.heap[g]? = some zPr
section
variable {B : Nat} {w w' : World} {m : Nat} {og : Option Nat} {o17 : Option Value}
theorem Al.lt (h : Al B w m og o17) : ∀ k, og = some k → B ≤ k ∧ k < w.heap.size := by
  intro k e
  rcases Nat.eq_zero_or_pos m with h0 | h0
  · rw [h.no h0] at e; cases e
  · obtain ⟨g, e2, h1, h2, -⟩ := h.yes h0
    rw [e2] at e
    injection e with e
    subst e
    exact ⟨h1, h2⟩
theorem Al.off {o : Option Nat} (h : Al B w m og o17) (hg : w.grownBy w' o) (hd : Dj o og) : Al B w' m og o17 :=
  ⟨h.no, fun hm => by
    obtain ⟨g, e2, h1, h2, h3, h4⟩ := h.yes hm
    exact ⟨g, e2, h1, Nat.lt_of_lt_of_le h2 hg.size, h3, (hg.block g h2 (fun e => hd g e.symm e2)).trans h4⟩⟩
theorem Al.alloc (h : Al B w m og o17) (o : Obj) : Al B (w.alloc o) m og o17 :=
  ⟨h.no, fun hm => by
    obtain ⟨g, e2, h1, h2, h3, h4⟩ := h.yes hm
    exact ⟨g, e2, h1, by simp; omega, h3, (Below.heap_alloc _ _ _ h2).trans h4⟩⟩
end
def sixSlots : List Nat := [91, 94, 97, 98, 101, 104, 105, 108, 111, 112, 17]
/-- What holds in a state. -/
def I6 (A0 : Act) (W : World) (n1 : Nat) (u1 : List Value) (n1' : Nat) (u1' : List Value) (n2 : Nat) (u2 : List Value) (n2' : Nat) (u2' : List Value) (n3 : Nat) (u3 : List Value) (n3' : Nat) (u3' : List Value) (s : St) (a : Act) (w : World) : Prop :=
  Below W.heap.size W w ∧ ∃ (f : Nat → Option Value) (v1 v2 v3 : Value) (og : Option Nat), a = over A0 f ∧ (∀ i, i ∉ sixSlots → f i = none) ∧
    Chn W.heap.size w 63 s.d1 v1 n1 u1 n1' u1' (f 91) (f 94) (f 97) ∧ Chn W.heap.size w 67 s.d2 v2 n2 u2 n2' u2' (f 98) (f 101) (f 104) ∧ Chn W.heap.size w 60 s.d3 v3 n3 u3 n3' u3' (f 105) (f 108) (f 111) ∧
    Al W.heap.size w s.m og (f 17) ∧ (1 ≤ s.b → f 112 = some (.agg #[v1, v2, v3])) ∧
    Dj v1.ownBlock v2.ownBlock ∧ Dj v1.ownBlock v3.ownBlock ∧ Dj v2.ownBlock v3.ownBlock ∧ Dj v1.ownBlock og ∧ Dj v2.ownBlock og ∧ Dj v3.ownBlock og
theorem sup_set {f : Nat → Option Value} (h : ∀ i, i ∉ sixSlots → f i = none) (d : Nat) (hd : d ∈ sixSlots) (v : Value) : ∀ i, i ∉ sixSlots → (fun i => if i = d then some v else f i) i = none := by
  intro i hi
  show (if i = d then some v else f i) = none
  rw [if_neg (fun e : i = d => hi (by rw [e]; exact hd))]
  exact h i hi
theorem mem_if {c : Prop} [Decidable c] {x q : Nat × St} (h : q ∈ (if c then [x] else [])) : c ∧ q = x := by
  by_cases hc : c
  · rw [if_pos hc] at h
    exact ⟨hc, List.mem_singleton.1 h⟩
  · rw [if_neg hc] at h
    cases h
theorem dj_new {w : World} {b : Option Nat} (h : ∀ k, b = some k → k < w.heap.size) : Dj (some w.heap.size) b := fun k e1 e2 => by
  injection e1 with e1
  have := h k e2
  omega
theorem progR_len : ∀ (N : Nat) (l : List Kt) (cs : List ClL) (x : List Kt), l.length ≤ N → progR l = .ok cs x → cs.length ≤ l.length := by
  intro N
  induction N with
  | zero =>
    intro l cs x hl e
    obtain rfl : l = [] := List.eq_nil_of_length_eq_zero (by omega)
    rw [progR_nil] at e
    cases e
    exact Nat.le_refl _
  | succ N ih =>
    intro l cs x hl e
    by_cases h : l = []
    · subst h
      rw [progR_nil] at e
      cases e
      exact Nat.le_refl _
    · rw [progR_eq h] at e
      cases e1 : clauseR l with
      | bad y => rw [e1] at e; cases e
      | ok c y =>
        rw [e1] at e
        have h1 := fit_clause.eats _ _ _ e1
        simp only [Rs.bind] at e
        cases e2 : progR y with
        | bad z => rw [e2] at e; cases e
        | ok ds z =>
          rw [e2] at e
          cases e
          have := ih y ds _ (by omega) e2
          simp only [List.length_cons]
          omega
theorem say_len {V : List UInt8 → Option VL} {s : List UInt8} {cs : List ClL} (h : sayOf V progR s = .ok cs) : cs.length ≤ s.length := by
  rcases sayProg (V := V) s with ⟨x, -, e⟩ | ⟨cs', -, a2, e⟩ | ⟨r, -, -, -, e⟩ <;> rw [e] at h <;> cases h
  have h1 := progR_len _ _ _ _ (Nat.le_refl _) a2
  rw [List.length_map] at h1
  exact Nat.le_trans h1 (lexS_len _ s 0 (Nat.le_refl _))
theorem dj0 {b : Option Nat} : Dj (Value.slice none 0 0).ownBlock b := fun k h _ => by simp [Value.ownBlock] at h
theorem I6.init (A0 : Act) (W : World) (n1 : Nat) (u1 : List Value) (n1' : Nat) (u1' : List Value) (n2 : Nat) (u2 : List Value) (n2' : Nat) (u2' : List Value) (n3 : Nat) (u3 : List Value) (n3' : Nat) (u3' : List Value) (w : World) (hb : Below W.heap.size W w) :
    I6 A0 W n1 u1 n1' u1' n2 u2 n2' u2' n3 u3 n3' u3' ⟨0, 0, 0, 0, 0⟩ A0 w :=
  ⟨hb, fun _ => none, .slice none 0 0, .slice none 0 0, .slice none 0 0, none, (over_none A0 _ fun _ => rfl).symm, fun _ _ => rfl, Chn.init _ _ _ _ _ _ _ _ _ _, Chn.init _ _ _ _ _ _ _ _ _ _, Chn.init _ _ _ _ _ _ _ _ _ _,
    ⟨fun _ => rfl, fun h => absurd h (by decide)⟩, fun h => absurd h (by decide), dj0, dj0, dj0, dj0, dj0, dj0⟩
end
section
open Go Go.RowKit Go.Shelf

theorem bs_step {ops : Array Oper} {Q : Exit → Act → World → Prop} {E : Prop} {a : Act} {w : World} {K : Act → World → Prop} (o : Oper) (st et : TypeId) (ho : o.op = Op.buildSlice st 0 #[]) (hg : o.guard = none) (hu : Tryz.prog.underlying st = some (.slice et)) (i : TypeInfo) (hi : Tryz.prog.info? et = some i)
    (h : K (a.put o.dst (.slice (some ⟨w.heap.size, 0, none⟩) 0 0)) (w.alloc (.cells #[] et))) : if Region.wanted o (yielded ops a.tmps) = true then Oper.wp Tryz.prog o a w K Q else E := by
  have hw : Region.wanted o (yielded ops a.tmps) = true := by simp [Region.wanted, hg]
  rw [if_pos hw]
  unfold Oper.wp
  have hr : (execOp a.eval o).run Tryz.prog w = .ok (.value (.slice (some ⟨w.heap.size, 0, none⟩) 0 0)) (w.alloc (.cells #[] et)) := by
    unfold execOp
    rw [ho]
    simp [go_sem, Instr.buildSlice, run_underlying hu, sizeOf, typeInfo, hi]
  rw [hr]
  exact h
theorem build_step {ops : Array Oper} {Q : Exit → Act → World → Prop} {E : Prop} {a : Act} {w : World} {K : Act → World → Prop} (o : Oper) (ho : o.op = Op.build 27 #[(0, Operand.tmp 97), (1, Operand.tmp 104), (2, Operand.tmp 111)]) (hg : o.guard = none) {p1 p2 p3 : Option Addr} {n1 n2 n3 c1 c2 c3 : Nat}
    (h1 : a.eval (.tmp 97) = .slice p1 n1 c1) (h2 : a.eval (.tmp 104) = .slice p2 n2 c2) (h3 : a.eval (.tmp 111) = .slice p3 n3 c3) (h : K (a.put o.dst (.agg #[.slice p1 n1 c1, .slice p2 n2 c2, .slice p3 n3 c3])) w) :
    if Region.wanted o (yielded ops a.tmps) = true then Oper.wp Tryz.prog o a w K Q else E := by
  have hw : Region.wanted o (yielded ops a.tmps) = true := by simp [Region.wanted, hg]
  rw [if_pos hw]
  unfold Oper.wp
  have hr : (execOp a.eval o).run Tryz.prog w = .ok (.value (.agg #[.slice p1 n1 c1, .slice p2 n2 c2, .slice p3 n3 c3])) w := by
    unfold execOp
    rw [ho]
    simp only [List.map_toArray, List.map_cons, List.map_nil, h1, h2, h3]
    simp [go_sem]
  rw [hr]
  exact h
theorem al_step {ops : Array Oper} {Q : Exit → Act → World → Prop} {E : Prop} {a : Act} {w : World} {K : Act → World → Prop} (o : Oper) (ho : o.op = Op.alloc 27) (hg : o.guard = none)
    (h : K (a.put o.dst (.pointer (some ⟨w.heap.size, 0, none⟩))) (w.alloc zPr)) : if Region.wanted o (yielded ops a.tmps) = true then Oper.wp Tryz.prog o a w K Q else E := by
  have hw : Region.wanted o (yielded ops a.tmps) = true := by simp [Region.wanted, hg]
  rw [if_pos hw]
  unfold Oper.wp
  have hr : (execOp a.eval o).run Tryz.prog w = .ok (.value (.pointer (some ⟨w.heap.size, 0, none⟩))) (w.alloc zPr) := by
    unfold execOp
    rw [ho]
    simp [go_sem]
  rw [hr]
  exact h
end
end Go.Proofs.YtpemmgbopknopaaGreatDoor
