/-
  Disk.Lose of one file, its directory fixed: the words.
-/
import Derived.Test.YtnmeehhjfcciiaaDsS
import Derived.Test.YtnmeehhjfcciiaaDkLo
namespace Go.Proofs.Ytnmeehhjfcciiaa
open Go Go.RowKit Go.Maps Go.WideMaps

/-- Each sector is as it is now, or as it was, and 0 behind what was. -/
def Mix (now was r : List UInt8) : Prop := ∀ t : Nat, (∀ j, t * 64 ≤ j → j < t * 64 + 64 → j < r.length → r[j]? = now[j]?) ∨ (∀ j, t * 64 ≤ j → j < t * 64 + 64 → j < r.length → r[j]? = some ((was[j]?).getD 0))
theorem mix_take (now was : List UInt8) (z : Nat) : Mix now was (now.take z) := fun t => .inl fun j _ _ h => by
  rw [List.length_take] at h
  rw [List.getElem?_take, if_pos (by omega)]
theorem mix_mend {now was r r' : List UInt8} {s : Nat} (h : Mix now was r) (hm : Mend r' r (sec was s) (s * 64) (min 64 (r.length - s * 64))) : Mix now was r' := by
  intro t
  by_cases e : t = s
  · subst e
    refine .inr fun j h1 h2 h3 => ?_
    rw [hm.1] at h3
    rw [hm.2 j h3, if_pos (by omega)]
    unfold sec
    rw [List.getElem?_take, if_pos (by omega), List.getElem?_drop, show t * 64 + (j - t * 64) = j by omega]
  · have hs : ∀ j, t * 64 ≤ j → j < t * 64 + 64 → j < r'.length → r'[j]? = r[j]? := fun j h1 h2 h3 => by
      rw [hm.1] at h3
      rw [hm.2 j h3, if_neg (by omega)]
    rcases h t with h | h
    · exact .inl fun j h1 h2 h3 => (hs j h1 h2 h3).trans (h j h1 h2 (by rw [← hm.1]; exact h3))
    · exact .inr fun j h1 h2 h3 => (hs j h1 h2 h3).trans (h j h1 h2 (by rw [← hm.1]; exact h3))
theorem mend_len {r l B : List UInt8} {a k : Nat} (h : Mend r l B a k) : r.length = l.length := h.1
/-- A new disk of any room, with no file yet: what Lose begins with. -/
structure LzN (w wr : World) (x : Nat) (room next : Int) (D X : Nat) : Prop where
  old : Grow (fun _ => False) w wr
  on : DkOn wr (x + 4) room next x (x + 1) D X (.slice none 0 0)
  files : MapAt wr Try.prog 3 x 0 (.map [])
  olds : MapAt wr Try.prog 92 (x + 1) 0 (.map [])
  new : w.heap.size ≤ x
theorem LzN.grow {w wr w1 : World} {x D X : Nat} {room next : Int} (h : LzN w wr x room next D X) (hg : Grow (fun _ => False) wr w1) : LzN w w1 x room next D X :=
  ⟨h.old.trans hg, h.on.grow hg (fun e => e), h.files.grow hg (fun e => e), h.olds.grow hg (fun e => e), h.new⟩
theorem LzN.low {w wr : World} {x D X : Nat} {room next : Int} (h : LzN w wr x room next D X) : x + 4 < wr.heap.size := h.on.lt
theorem LzN.setC {w wr : World} {x D X D' X' : Nat} {room next next' : Int} (h : LzN w wr x room next D X) (i : Nat) (v : Value) (hn : DkOn (wr.setCell ⟨x + 4, i, none⟩ v) (x + 4) room next' x (x + 1) D' X' (.slice none 0 0)) : LzN w (wr.setCell ⟨x + 4, i, none⟩ v) x room next' D' X' :=
  ⟨⟨h.old.os, h.old.tape, h.old.output, by simp [World.setCell]; exact h.old.size, fun k hk _ => (Below.heap_setCell _ _ _ _ (by show k ≠ x + 4; have := h.new; omega)).trans (h.old.block k hk (fun e => e))⟩, hn, h.files.setCell (by show x ≠ x + 4; omega) v, h.olds.setCell (by show x + 1 ≠ x + 4; omega) v, h.new⟩
theorem LzN.of_new {w w0 w1 : World} {room : Int} (hg : Grow (fun _ => False) w w0) (h : NewDk w0 w1 room) : LzN w w1 w0.heap.size room 0 (w0.heap.size + 2) (w0.heap.size + 3) :=
  ⟨hg.trans ⟨h.below.os, h.below.tape, h.below.output, h.below.size, fun k hk _ => h.below.block k hk⟩, h.disk, h.files, h.olds, hg.size⟩
/-- What Lose has behind its first steps: the new disk with its two directories, the sizes. -/
structure LzB (w wr : World) (x : Nat) (room next : Int) (c r sz nx : Nat) (s : List UInt8) (vk vs : Value) (z : Int) : Prop where
  old : Grow (fun _ => False) w wr
  on : DkOn wr (x + 4) room next x (x + 1) c r (.slice none 0 0)
  olds : MapAt wr Try.prog 92 (x + 1) 0 (.map [])
  loss : wr.heap[w.heap.size]? = some (.cells #[.int .i64 0, vk, vs] 26 (0, 0))
  fixed : MapAt wr Try.prog 9 r nx (oneM (.string s) (.int .i64 0))
  dir : MapAt wr Try.prog 9 c nx (oneM (.string s) (.int .i64 0))
  sizes : ∃ k, k ≤ 2 ∧ MapAt wr Try.prog 3 sz k (oneM (.int .i64 0) (.int .i64 z))
  ord : w.heap.size < x ∧ x + 4 < r ∧ r < c ∧ c < sz
theorem LzB.step {S : Nat → Prop} {w wr w1 : World} {x : Nat} {room next z : Int} {c r sz nx : Nat} {s : List UInt8} {vk vs : Value} (h : LzB w wr x room next c r sz nx s vk vs z) (hg : Grow S wr w1) (hS : ∀ k, S k → k = x ∨ sz < k) : LzB w w1 x room next c r sz nx s vk vs z := by
  obtain ⟨o1, o2, o3, o4⟩ := h.ord
  obtain ⟨k, hk, hsz⟩ := h.sizes
  have no : ∀ {k : Nat}, k ≠ x → k ≤ sz → ¬ S k := fun h1 h2 hs => by rcases hS _ hs with e | e <;> omega
  exact ⟨h.old.thenNew hg (fun i hi hs => by rcases hS i hs with e | e <;> omega), h.on.grow hg (no (by omega) (by omega)), h.olds.grow hg (no (by omega) (by omega)),
    (hg.block _ (Array.getElem?_eq_some_iff.1 h.loss).1 (no (by omega) (by omega))).trans h.loss, h.fixed.grow hg (no (by omega) (by omega)), h.dir.grow hg (no (by omega) (by omega)), ⟨k, hk, hsz.grow hg (no (by omega) (by omega))⟩, h.ord⟩
theorem LzB.same {w wr w1 : World} {x : Nat} {room next z : Int} {c r sz nx : Nat} {s : List UInt8} {vk vs : Value} (h : LzB w wr x room next c r sz nx s vk vs z) (hg : Grow (fun _ => False) wr w1) : LzB w w1 x room next c r sz nx s vk vs z := h.step hg (fun _ e => e.elim)
/-- The new file. -/
def NewG (wr : World) (x it hi : Nat) (z : Int) (l : List UInt8) : Prop :=
  ∃ g2 v, MapAt wr Try.prog 3 x 1 (oneM (.int .i64 0) (.pointer (some ⟨g2, 0, none⟩))) ∧ FileAt wr g2 v z (.slice none 0 0) ∧ OwnF it wr v l ∧ it < g2 ∧ g2 < hi ∧ (∀ b, v.ownBlock = some b → it < b ∧ b < hi ∧ b ≠ g2)
theorem NewG.grow {wr w1 : World} {x it hi : Nat} {z : Int} {l : List UInt8} (h : NewG wr x it hi z l) (hg : Grow (fun _ => False) wr w1) : NewG w1 x it hi z l := by
  obtain ⟨g2, v, h1, h2, h3, h4⟩ := h
  exact ⟨g2, v, h1.grow hg (fun e => e), h2.grow hg (fun e => e), h3.grow hg (fun _ _ e => e), h4⟩
theorem NewG.mono {wr : World} {x it hi hi' : Nat} {z : Int} {l : List UInt8} (h : NewG wr x it hi z l) (hh : hi ≤ hi') : NewG wr x it hi' z l := by
  obtain ⟨g2, v, h1, h2, h3, h4, h5, h6⟩ := h
  exact ⟨g2, v, h1, h2, h3, h4, by omega, fun b hb => by have := h6 b hb; omega⟩
/-- The first loop. -/
structure LzL (w wr : World) (x : Nat) (room next : Int) (c r sz nx : Nat) (s : List UInt8) (vk vs : Value) (z : Int) (l : List UInt8) (fn it k : Nat) (left : Lit → Bool) (cnt : Nat) : Prop where
  base : LzB w wr x room next c r sz nx s vk vs z
  rg : wr.ranges Try.prog 3 heldE fn it 1 (oneM (.int .i64 0) (.agg #[])) left cnt
  one : OneR (.int .i64 0) (.agg #[]) left k 1
  st : (k = 0 ∧ MapAt wr Try.prog 3 x 0 (.map [])) ∨ (k = 1 ∧ NewG wr x it wr.heap.size z l)
  ord : sz < fn ∧ fn < it
theorem look_z {W : World} {sz k : Nat} {z : Int} (h : MapAt W Try.prog 3 sz k (oneM (.int .i64 0) (.int .i64 z))) : (Instr.lookup 84 (.map (some sz)) (.int .i64 0) false).run Try.prog W = .ok (.int .i64 z) W :=
  run_lookup_any W keyI Try.underlying84 (.int .i64 0) (.int .i64 z) (zeroI W) h (keyOf_int_mk (P := Try.prog) Try.underlying3 (q := .i64) (a := 0) (by decide)) (oneM_at _ (sym_int .i64 0))
/-- Behind the clone of the bytes: what the region reads and writes. -/
theorem losez_upd {w w1 w2 : World} {x : Nat} {room next z : Int} {c r sz nx it : Nat} {s : List UInt8} {vk vs v : Value} {l : List UInt8} (hB : LzB w w1 x room next c r sz nx s vk vs z) (hF : MapAt w1 Try.prog 3 x 0 (.map [])) (how : OwnF w1.drew.heap.size w2 v l) (hg : Grow (fun _ => False) w1.drew w2) (hit : it < w1.heap.size) :
    ∃ w3, (Instr.mapUpdate 59 (.map (some x)) (.int .i64 0) (.pointer (some ⟨w2.heap.size, 0, none⟩))).run Try.prog (w2.alloc (.cells #[v, .int .i64 z, .slice none 0 0] 69)) = .ok () w3 ∧
      LzB w w3 x room next c r sz nx s vk vs z ∧ NewG w3 x it w3.heap.size z l ∧ Grow (fun k => k = x) w1 w3 := by
  have hk : keyOf Try.prog 3 (.int .i64 0) = some (.int .i64 0) := keyOf_int_mk (P := Try.prog) Try.underlying3 (q := .i64) (a := 0) (by decide)
  have hg12 : Grow (fun _ => False) w1 w2 := (Grow.refl _ w1).drew.trans hg
  have hF2 : MapAt (w2.alloc (.cells #[v, .int .i64 z, .slice none 0 0] 69)) Try.prog 3 x 0 (.map []) := (hF.grow hg12 (fun e => e)).alloc _
  obtain ⟨w3, hrun, hm3, hg3⟩ := run_update_any _ keyI Try.underlying59 hF2 (by decide) hk (val := .pointer (some ⟨w2.heap.size, 0, none⟩))
  have hx : x < w1.heap.size := hF.lt
  have hs2 := hg12.size
  have hs3 := hg3.size
  have hg13 : Grow (fun k => k = x) w1 w3 := (hg12.alloc _ |>.mono (T := fun k => k = x) (fun _ _ e => e.elim)).trans (Grow.of_grown hg3 (fun k e _ => (Option.some.inj e).symm))
  have hs4 : w2.heap.size + 1 ≤ w3.heap.size := by rw [World.size_alloc] at hs3; exact hs3
  refine ⟨w3, hrun, hB.step hg13 (fun k e => .inl e), ⟨w2.heap.size, v, hm3, ?_, ?_, by omega, by omega, fun b hb => ?_⟩, hg13⟩
  · exact (hg3.block w2.heap.size (by simp) (fun e => by have := Option.some.inj e; omega)).trans (heap_alloc_new w2 _)
  · refine own_base (World.ownsRow.kept (World.ownsRow.alloc how _) hg3 ?_) (Nat.le_of_lt hit)
    right
    intro e
    have := (how.lt x e).1
    have : w1.heap.size ≤ x := this
    omega
  · have h1 := (how.lt b hb).1
    have h2 := (how.lt b hb).2
    have : w1.heap.size ≤ b := h1
    omega
/-- What Lose answers. -/
def LoseG (w : World) (room : Int) (s now was : List UInt8) (fixed : Nat) (e : Ending) (w' : World) : Prop :=
  ∃ d2 F2 O2 D2 X2 g2 v2 nx2, ∃ (next z : Int) (l : List UInt8), e = .returned (.tuple #[.pointer (some ⟨d2, 0, none⟩), .int .i64 0]) ∧
    DkS w.heap.size w' d2 F2 O2 D2 X2 room next 1 0 nx2 nx2 0 (oneM (.int .i64 0) (.pointer (some ⟨g2, 0, none⟩))) (.map []) (oneM (.string s) (.int .i64 0)) (oneM (.string s) (.int .i64 0)) (.slice none 0 0) [] ∧
    FileAt w' g2 v2 z (.slice none 0 0) ∧ OwnF w.heap.size w' v2 l ∧ (l.length = fixed ∨ l.length = now.length) ∧ Mix now was l ∧ Grow (fun _ => False) w w'
theorem losez_end {w wr : World} {x : Nat} {room next z : Int} {c r sz nx it hi fixed : Nat} {s now was l : List UInt8} {vk vs : Value} (h : LzB w wr x room next c r sz nx s vk vs z) (hf : NewG wr x it hi z l) (hit : w.heap.size ≤ it) (hl : l.length = fixed ∨ l.length = now.length) (hm : Mix now was l) : LoseG w room s now was fixed (.returned (.tuple #[.pointer (some ⟨x + 4, 0, none⟩), .int .i64 0])) wr := by
  obtain ⟨g2, v, h1, h2, h3, h4, h5, h6⟩ := hf
  obtain ⟨o1, o2, o3, o4⟩ := h.ord
  refine ⟨x + 4, x, x + 1, c, r, g2, v, nx, next, z, l, rfl, ⟨h.on, h1, h.olds, h.dir, h.fixed, World.ownsRow_nil _ _ _ _, ?_, ?_, ?_⟩, h2, own_base h3 hit, hl, hm, h.old⟩
  · omega
  · intro k hk
    cases hk
  · omega
/-- The second loop. -/
structure LzM (w wr : World) (x : Nat) (room next : Int) (c r sz nx : Nat) (s : List UInt8) (vk vs : Value) (z : Int) (it hi : Nat) (rv : Value) (P : List Nat) (len : Nat) (now was : List UInt8) : Prop where
  base : LzB w wr x room next c r sz nx s vk vs z
  row : wr.ownsRow hi 92 2 rv P.length (spc P)
  file : ∃ l, NewG wr x it hi z l ∧ l.length = len ∧ Mix now was l
  ord : sz < it ∧ it < hi
theorem LzM.grow {w wr w1 : World} {x : Nat} {room next z : Int} {c r sz nx it hi len : Nat} {s now was : List UInt8} {vk vs rv : Value} {P : List Nat} (h : LzM w wr x room next c r sz nx s vk vs z it hi rv P len now was) (hg : Grow (fun _ => False) wr w1) : LzM w w1 x room next c r sz nx s vk vs z it hi rv P len now was := by
  obtain ⟨l, h1, h2⟩ := h.file
  exact ⟨h.base.same hg, own_grow h.row hg (fun _ _ e => e), ⟨l, h1.grow hg, h2⟩, h.ord⟩
end Go.Proofs.Ytnmeehhjfcciiaa
