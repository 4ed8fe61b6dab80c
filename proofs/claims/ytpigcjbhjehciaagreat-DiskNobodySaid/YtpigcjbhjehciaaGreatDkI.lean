/-
  A law of a region that draws its order: the operations ahead only read, the tail is a chain, and one last operation beside them yields the same in whatever world.
-/
import Derived.Test.YtpigcjbhjehciaaGreatDkX
namespace Go.Proofs.YtpigcjbhjehciaaGreat
open Go Go.RowKit

/-- No guard, and each edge to an operation of the row itself. -/
def openB (l : Array Oper) : Bool := l.all fun o => o.guard.isNone && o.after.all fun e => decide (e.on < l.size)

theorem open_spec {l : Array Oper} (h : openB l = true) {i : Nat} {o : Oper} (ho : l[i]? = some o) : o.guard = none ∧ ∀ e ∈ o.after, e.on < l.size := by
  have h1 := Array.all_eq_true_iff_forall_mem.1 h o (Array.mem_of_getElem? ho)
  simp only [Bool.and_eq_true, Option.isNone_iff_eq_none, Array.all_eq_true_iff_forall_mem, decide_eq_true_eq] at h1
  exact h1

theorem push_getD {x : Array Bool} {i : Nat} {b d : Bool} (h : i < x.size) : (x.push b).getD i d = x.getD i d := by
  simp [Array.getD_eq_getD_getElem?, Array.getElem?_push, Nat.ne_of_lt h]

theorem ready_push {md : Region.Mode} {l : Array Oper} {m : Oper} (hB : openB l = true) {x : Array Bool} (hx : x.size = l.size) : Region.ready md (l.push m) (x.push true) = Region.ready md l x := by
  unfold Region.ready
  rw [Array.size_push, List.range_succ, List.filter_append]
  have h1 : List.filter (fun i => !(x.push true).getD i true && (((l.push m)[i]?).map (·.after.all fun e => !Region.binds md e || (x.push true).getD e.on false)).getD false) [l.size] = [] := by
    rw [← hx]
    simp [Array.getD_eq_getD_getElem?]
  rw [h1, List.append_nil]
  refine List.filter_congr fun i hi => ?_
  have hi' : i < l.size := List.mem_range.1 hi
  rw [push_getD (by omega)]
  congr 1
  rw [Array.getElem?_push, if_neg (by omega)]
  obtain ⟨o, ho⟩ : ∃ o, l[i]? = some o := ⟨l[i], by simp [hi']⟩
  rw [ho]
  simp only [Option.map_some, Option.getD_some]
  have he := (open_spec hB ho).2
  rw [Bool.eq_iff_iff, Array.all_eq_true_iff_forall_mem, Array.all_eq_true_iff_forall_mem]
  constructor <;> intro h e hm
  · have := h e hm
    rwa [push_getD (by have := he e hm; omega)] at this
  · have := h e hm
    rwa [push_getD (by have := he e hm; omega)]

theorem set_push {x : Array Bool} {i : Nat} (h : i < x.size) : (x.push true).setIfInBounds i true = (x.setIfInBounds i true).push true := by
  apply Array.ext'
  simp only [Array.toList_setIfInBounds, Array.toList_push]
  rw [List.set_append_left _ _ (by simpa using h)]

theorem wanted_none {o : Oper} (h : o.guard = none) (y : Nat → Option Bool) : Region.wanted o y = true := by simp [Region.wanted, h]

theorem wpAny_push {P : Program} {md : Region.Mode} {l : Array Oper} {m : Oper} {Q : Exit → Act → World → Prop} (hB : openB l = true) :
    ∀ (f : Nat) (x : Array Bool) (a : Act) (w : World), x.size = l.size → wpAny P md l Q f x a w → wpAny P md (l.push m) Q f (x.push true) a w
  | 0, x, a, w, hx, h => ⟨(ready_push hB hx).trans h.1, h.2⟩
  | f + 1, x, a, w, hx, h => by
    refine ⟨fun h0 => h.1 ((ready_push hB hx).symm.trans h0), fun i hi => ?_⟩
    rw [ready_push hB hx] at hi
    have h1 := h.2 i hi
    have hil : i < l.size := by
      have := List.mem_filter.1 hi
      exact List.mem_range.1 this.1
    rw [set_push (by omega)]
    have h2 : wpOp P l Q i (wpAny P md (l.push m) Q f ((x.setIfInBounds i true).push true)) a w :=
      wpOp_mono (fun a' w' h' => wpAny_push hB f _ a' w' (by simpa using hx) h') h1
    obtain ⟨o, ho⟩ : ∃ o, l[i]? = some o := ⟨l[i], by simp [hil]⟩
    have hg := (open_spec hB ho).1
    unfold wpOp at h2 ⊢
    rw [Array.getElem?_push, if_neg (by omega)]
    rw [ho] at h2 ⊢
    simp only [wanted_none hg] at h2 ⊢
    exact h2

/-- The same as the law of a still head and its tail, told of the drawn orders themselves. -/
theorem any_still_tail {P : Program} {Q : Exit → Act → World → Prop} {a : Act} {w : World} {l : List Oper} (n : Nat) (hB : Region.lexTailB .any l.toArray n = true)
    (h : wpStill P l.toArray w (fun a' => wpList P l.toArray Q (l.drop n) a' w) (l.take n) a) : wpAny P .any l.toArray Q l.length (Array.replicate l.length false) a w := by
  simp only [Region.lexTailB, Bool.and_eq_true, decide_eq_true_eq] at hB
  obtain ⟨⟨⟨⟨h1, h2⟩, h3⟩, h4⟩, h5⟩ := hB
  simp only [List.size_toArray] at h2 h5
  have inv : HeadInv .any l.toArray n (Array.replicate l.length false) :=
    ⟨by simp, fun j oj _ hl => absurd hl (by rw [getD_replicate_false]; simp), fun t _ ht => getD_in (by simpa using ht) (getD_replicate_false _ _)⟩
  have hlen : (l.take n).length = n := by rw [List.length_take]; omega
  have H := wpAnyL_lex (md := .any) (g := l.length - n) h1 h3 h4 (by simpa using h2) (l.take n) 0 (Array.replicate l.length false) a
    (fun j hj => by rw [hlen] at hj; simp [hj]) (by omega) inv (by rw [hlen]; exact h5) h
  rw [hlen] at H
  have H2 := wpAny_of_head (Q' := Q) (g := l.length - n) (fun x a' hx => by
    have e := wpAny_of_seq (md := .any) (Q' := Q) (l.drop n) n x a' w (fun j => by simp [List.getElem?_drop]) (by rw [List.length_drop]; exact hx.1) hx.2
    rwa [List.length_drop] at e) _ _ _ H
  rwa [show n + (l.length - n) = l.length by omega] at H2

theorem replicate_set_last (k : Nat) : (Array.replicate (k + 1) false).setIfInBounds k true = (Array.replicate k false).push true := by
  apply Array.ext'
  simp only [Array.toList_setIfInBounds, Array.toList_push, Array.toList_replicate, List.replicate_succ']
  rw [List.set_append_right _ _ (by simp)]
  simp

/-- The region: its last operation is taken first. -/
theorem region_still_tail_free {P : Program} {id : Nat} {Q : Exit → Act → World → Prop} {a : Act} {w : World} {L : List Oper} {m : Oper} (k n : Nat) (v : Value) (hm : P.follows .mixedOrders = true)
    (hL : L = L.take k ++ [m]) (hk : (L.take k).length = k) (hB : Region.lexTailB .any (L.take k).toArray n = true) (hO : openB (L.take k).toArray = true) (hS : Region.noSelect L.toArray = true)
    (hF : Region.free .any L.toArray (Array.replicate (k + 1) false) k = true) (hR : (Region.ready .any L.toArray (Array.replicate (k + 1) false)).contains k = true)
    (hQ : ∀ c a w, Q (.panic c) (a.put m.dst v) w → Q (.panic c) a w) (hy : Yields P L.toArray m v a)
    (h : wpStill P (L.take k).toArray { w with drawn := w.drawn + 1 } (fun a' => wpList P (L.take k).toArray Q ((L.take k).drop n) a' { w with drawn := w.drawn + 1 }) ((L.take k).take n) (a.put m.dst v)) :
    (Code.region id L.toArray true).wp P Q a w := by
  refine wp_region_any hm ?_
  have hlen : L.length = k + 1 := by
    have := congrArg List.length hL
    rw [List.length_append, hk] at this
    simpa using this
  have hi : L.toArray[k]? = some m := by
    have e : L.toArray[k]? = L[k]? := by simp
    rw [e, hL, List.getElem?_append_right (by rw [hk]; exact Nat.le_refl _), hk]
    simp
  rw [List.size_toArray, hlen]
  refine wpAny_take hi hS hF hR hQ hy ?_
  rw [replicate_set_last]
  have H := any_still_tail (P := P) (Q := Q) n hB h
  rw [hk] at H
  have H2 := wpAny_push (m := m) hO k (Array.replicate k false) _ _ (by simp [hk]) H
  have e : (L.take k).toArray.push m = L.toArray := by
    simp only [List.push_toArray]
    rw [← hL]
  rwa [e] at H2
end Go.Proofs.YtpigcjbhjehciaaGreat
