/-
  A drawn region that turns bytes into texts and calls functions that make bytes: what is held of the world grows with each call.
-/
import Derived.Test.YthnpiafpkllbpaaPkW
import Derived.Deep.RegionHeld3
namespace Go.Proofs.Ythnpiafpkllbpaa
open Go Go.RowKit

theorem wpAnyH_mono {P : Program} {ops : Array Oper} {Q : Exit → Act → World → Prop} {md : Region.Mode} {S S' : World → Prop} (hs : ∀ W, S' W → S W) : ∀ {fuel : Nat} {listed : Array Bool} {a : Act} {w : World}, wpAnyH P md ops Q S' fuel listed a w → wpAnyH P md ops Q S fuel listed a w
  | 0, _, _, _, h => h
  | _ + 1, _, _, _, h => ⟨h.1, fun i hi => wpOp_mono (fun _ _ h' => ⟨hs _ h'.1, wpAnyH_mono hs h'.2⟩) (h.2 i hi)⟩
/-- A frame into which a value has been put, laid out anew: one name for all the steps. -/
theorem put_norm : (∀ (t : Array Value) (ds : List Deferred) (d : Tmp) (v : Value), (⟨t, ds⟩ : Act).put (some d) v = ⟨t.setIfInBounds d v, ds⟩) ∧ (∀ (a : Act) (v : Value), a.put none v = a) ∧ (∀ (l : List Value) (i : Nat) (v : Value), l.toArray.setIfInBounds i v = (l.set i v).toArray) ∧
    (∀ (l : List Value) (x v : Value), (x :: l).set 0 v = v :: l) ∧ (∀ (l : List Value) (x v : Value) (n : Nat), (x :: l).set (n + 1) v = x :: l.set n v) ∧
    (∀ (l : List Bool) (i : Nat) (v : Bool), l.toArray.setIfInBounds i v = (l.set i v).toArray) ∧ (∀ (l : List Bool) (x v : Bool), (x :: l).set 0 v = v :: l) ∧ (∀ (l : List Bool) (x v : Bool) (n : Nat), (x :: l).set (n + 1) v = x :: l.set n v) :=
  ⟨fun _ _ _ _ => rfl, fun _ _ => rfl, fun l i v => List.setIfInBounds_toArray l i v, fun _ _ _ => rfl, fun _ _ _ _ => rfl, fun l i v => List.setIfInBounds_toArray l i v, fun _ _ _ => rfl, fun _ _ _ _ => rfl⟩
theorem wpAnyH_act {P : Program} {ops : Array Oper} {Q : Exit → Act → World → Prop} {md : Region.Mode} {S : World → Prop} {fuel : Nat} {listed : Array Bool} {a a' : Act} {W : World} (e : a = a') (h : wpAnyH P md ops Q S fuel listed a' W) : wpAnyH P md ops Q S fuel listed a W := by
  subst e
  exact h
/-- One operation that yields in every world that is held, taken first; the frame behind it laid out. -/
theorem take1 {P : Program} {ops : Array Oper} {Q : Exit → Act → World → Prop} {md : Region.Mode} {S : World → Prop} (i d : Nat) {oi : Oper} {v : Value} {fuel : Nat} {listed : Array Bool} {a a' : Act} {W : World} (hi : ops[i]? = some oi) (hd : oi.dst = some d)
    (hs : Region.noSelect ops = true) (hf : Region.free md ops listed i = true) (hr : (Region.ready md ops listed).contains i = true)
    (hQ : ∀ c a w, Q (.panic c) (a.put oi.dst v) w → Q (.panic c) a w) (hw : Region.wanted oi (yielded ops a.tmps) = true) (hy : ∀ w, S w → (execOp a.eval oi).run P w = .ok (.value v) w) (hS : S W)
    (ha : a.put (some d) v = a') (h : wpAnyH P md ops Q S fuel (listed.setIfInBounds i true) a' W) : wpAnyH P md ops Q S (fuel + 1) listed a W :=
  wpAnyH_take hi hs hf hr hQ (.inl ⟨hw, hy⟩) hS (by rw [hd, ha]; exact h)
/-- One operation whose guard forbids it, taken first. -/
theorem take0 {P : Program} {ops : Array Oper} {Q : Exit → Act → World → Prop} {md : Region.Mode} {S : World → Prop} (i d : Nat) {oi : Oper} {fuel : Nat} {listed : Array Bool} {a a' : Act} {W : World} (hi : ops[i]? = some oi) (hd : oi.dst = some d)
    (hs : Region.noSelect ops = true) (hf : Region.free md ops listed i = true) (hr : (Region.ready md ops listed).contains i = true)
    (hQ : ∀ c a w, Q (.panic c) (a.put oi.dst undef) w → Q (.panic c) a w) (hw : Region.wanted oi (yielded ops a.tmps) = false) (hS : S W)
    (ha : a.put (some d) undef = a') (h : wpAnyH P md ops Q S fuel (listed.setIfInBounds i true) a' W) : wpAnyH P md ops Q S (fuel + 1) listed a W :=
  wpAnyH_take hi hs hf hr hQ (.inr ⟨hw, rfl⟩) hS (by rw [hd, ha]; exact h)
theorem exec_str {o : Oper} {a : Act} {W : World} {x : Operand} {v : Value} {l : List UInt8} (ho : o.op = .convert 22 9 x) (hx : a.eval x = v) (h : BytIn W.heap.size W v l) : (execOp a.eval o).run Try.prog W = .ok (.value (.string ⟨l.toArray⟩)) W := by
  unfold execOp
  simp only [ho, hx, Sem.run_bind, run_str W _ v l h, Result.andThen_ok]
  rfl
/-- What is held of the world in such a region: nothing below w has turned, and these slice values read as these bytes. -/
structure Held (w : World) (L : List (Value × List UInt8)) (W : World) : Prop where
  below : Below w.heap.size w W
  all : ∀ p ∈ L, BytIn W.heap.size W p.1 p.2
theorem Held.nil (w : World) : Held w [] w := ⟨Below.refl _ _, fun _ h => by cases h⟩
theorem Held.at_ {w W : World} {L : List (Value × List UInt8)} {v : Value} {l : List UInt8} (h : Held w L W) (i : Nat) (hi : L[i]? = some (v, l)) : BytIn W.heap.size W v l := h.all (v, l) (List.mem_of_getElem? hi)
theorem Held.on {w W W' : World} {L : List (Value × List UInt8)} (h : Held w L W) (b : Below W.heap.size W W') : Held w L W' :=
  ⟨h.below.trans (b.mono h.below.size), fun p hp => ((h.all p hp).below b).mono b.size⟩
theorem Held.drew {w W : World} {L : List (Value × List UInt8)} (h : Held w L W) : Held w L W.drew := ⟨h.below.drew, h.all⟩
theorem Held.put {w W : World} {L : List (Value × List UInt8)} {v : Value} {l : List UInt8} (h : Held w L W) (hv : BytIn W.heap.size W v l) : Held w ((v, l) :: L) W :=
  ⟨h.below, fun p hp => by
    rcases List.mem_cons.1 hp with rfl | hp
    · exact hv
    · exact h.all p hp⟩
theorem Held.call {w W W' : World} {L : List (Value × List UInt8)} {v : Value} {l : List UInt8} {B : Nat} (h : Held w L W) (b : Below W.heap.size W W') (hv : OwnB B W' v l) : Held w ((v, l) :: L) W' := (h.on b).put hv.in_
theorem Held.tail {w W : World} {x : Value × List UInt8} {L : List (Value × List UInt8)} (h : Held w (x :: L) W) : Held w L W := ⟨h.below, fun p hp => h.all p (List.mem_cons_of_mem _ hp)⟩
theorem wpAnyH_more {P : Program} {ops : Array Oper} {Q : Exit → Act → World → Prop} {md : Region.Mode} {w W' : World} {x : Value × List UInt8} {L : List (Value × List UInt8)} (_ : Held w (x :: L) W') {fuel : Nat} {listed : Array Bool} {a : Act} {W : World} (h : wpAnyH P md ops Q (Held w (x :: L)) fuel listed a W) : wpAnyH P md ops Q (Held w L) fuel listed a W :=
  wpAnyH_mono (fun _ g => Held.tail g) h
theorem Held.self {w W : World} {L : List (Value × List UInt8)} (h : Held w L W) : Held w L W := h
theorem Held.old {w W : World} {L : List (Value × List UInt8)} {n₀ : Nat} {v : Value} {l : List UInt8} (h : Held w L W) (hv : BytIn n₀ w v l) (hn : n₀ ≤ w.heap.size) : BytIn n₀ W v l := hv.below (h.below.mono hn)
end Go.Proofs.Ythnpiafpkllbpaa
