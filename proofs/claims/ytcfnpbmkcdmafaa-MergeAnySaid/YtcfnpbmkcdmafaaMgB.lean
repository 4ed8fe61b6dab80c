/-
  An append of things; what it is to tell things; contract of merge.told.
-/
import Derived.Test.YtcfnpbmkcdmafaaMgA
namespace Go.Proofs.Ytcfnpbmkcdmafaa
open Go Go.RowKit

theorem cells_th {W : World} {b : Nat} : ∀ (T : List Th) (off : Nat), (∀ j (h : j < T.length), W.cell? ⟨b, off + j * 2, none⟩ = some (.int .i8 T[j].1) ∧ W.cell? ⟨b, off + j * 2 + 1, none⟩ = some (.int .i64 T[j].2)) → ∀ j u, (cellsTh T)[j]? = some u → W.cell? ⟨b, off + j, none⟩ = some u
  | [], off, _ => fun j u hu => by simp [cellsTh] at hu
  | x :: r, off, h => fun j u hu => by
    have h0 := h 0 (by simp)
    simp only [Nat.zero_mul, Nat.add_zero, List.getElem_cons_zero] at h0
    rcases j with _ | _ | j
    · simp [cellsTh] at hu; rw [← hu]; exact h0.1
    · simp [cellsTh] at hu; rw [← hu]; exact h0.2
    · have := cells_th r (off + 2) (fun i hi => by
        have h1 := h (i + 1) (by simpa using hi)
        rw [show off + (i + 1) * 2 = off + 2 + i * 2 by omega] at h1
        exact h1) j u (by simpa [cellsTh] using hu)
      rw [show off + (j + 1 + 1) = off + 2 + j by omega]
      exact this
theorem run_append_nilTh (w : World) (B : Nat) (ty : TypeId) (v : Value) (T : List Th) (hown : OwnTh B w v T) (c : Nat) : (Builtin.append_ #[22, 22] ty #[v, .slice none 0 c]).run Try.prog w = .ok v w := by
  obtain ⟨i0, hi, -, -, -⟩ := info_parts Try.infoTh
  rcases hown.2 with ⟨rfl, -⟩ | ⟨g, cap, cur, rfl, -, -, hnc, -⟩
  · simp [Builtin.append_, run_underlying Try.underlying22, sizeOf, typeInfo, hi, Builtin.lenOf, Builtin.firstCells]
  · simp [Builtin.append_, run_underlying Try.underlying22, sizeOf, typeInfo, hi, Builtin.lenOf, Builtin.firstCells, hnc, storeCells]
/-- An append of things onto a row of the call's own. -/
theorem run_appTh (w : World) (B : Nat) (S : Nat → Prop) (ty : TypeId) (v vx : Value) (T X : List Th) (hown : OwnTh B w v T) (hin : ThIn S w vx X) (hT : T.length ≤ 1000000) (hXl : X.length ≤ 1000000) (hB : B ≤ w.heap.size) :
    ∃ v' w', (Builtin.append_ #[22, 22] ty #[v, vx]).run Try.prog w = .ok v' w' ∧ OwnTh B w' v' (T ++ X) ∧ w.grownBy w' v.ownBlock ∧ (v'.ownBlock = v.ownBlock ∨ v'.ownBlock = some w.heap.size) := by
  obtain ⟨i0, hi, hz0, hz1, hz2⟩ := info_parts Try.infoTh
  obtain ⟨p, c, rfl, hX, hXm, hc⟩ := hin
  have some_ : ∀ ad, p = some ad → (∀ j u, (cellsTh X)[j]? = some u → w.cell? (ad.add j) = some u) → ∃ v' w', (Builtin.append_ #[22, 22] ty #[v, .slice p X.length c]).run Try.prog w = .ok v' w' ∧ OwnTh B w' v' (T ++ X) ∧ w.grownBy w' v.ownBlock ∧ (v'.ownBlock = v.ownBlock ∨ v'.ownBlock = some w.heap.size) := by
    rintro ad rfl hcell
    obtain ⟨v', w', hr, ho, hg, -, hv⟩ := run_append_own_at (P := Try.prog) w B 22 ty 28 i0 (.agg #[.int .i8 0, .int .i64 0]) 2 16 Try.underlying22 hi hz0 hz1 hz2 rfl (by decide) v _ _ hown ad X.length c (cellsTh X)
      (cellsTh_len X) hcell (cellsTh_one X) (by unfold maxLen; omega) (by omega) hB
    refine ⟨v', w', hr, ?_, hg, hv⟩
    unfold OwnTh
    rw [List.length_append, cellsTh_append]
    exact ho
  rcases hc with rfl | ⟨b, off, rfl, -, -, hc⟩
  · rcases p with _ | ad
    · exact ⟨v, w, run_append_nilTh w B ty v T hown c, by rw [List.append_nil]; exact hown, World.grownBy.refl w _, .inl rfl⟩
    · exact some_ ad rfl fun j u hu => by simp [cellsTh] at hu
  · exact some_ _ rfl fun j u hu => by
      rw [addr_add]
      exact cells_th X off hc j u hu
/-- The same at the operation. -/
theorem wpList_appTh {ops : Array Oper} {rest : List Oper} {o : Oper} {a : Act} {w : World} {Q : Exit → Act → World → Prop} (hgd : o.guard = none) (s x : Operand)
    (ho : o.op = .call { callee := .builtin .append, args := #[s, x], argTypes := #[22, 22] })
    (B : Nat) (S : Nat → Prop) (v vx : Value) (T X : List Th) (hs : a.eval s = v) (hx : a.eval x = vx) (hown : OwnTh B w v T) (hin : ThIn S w vx X) (hlen : T.length ≤ 1000000) (hlx : X.length ≤ 1000000) (hB : B ≤ w.heap.size)
    (h : ∀ v' w', OwnTh B w' v' (T ++ X) → w.grownBy w' v.ownBlock → (v'.ownBlock = v.ownBlock ∨ v'.ownBlock = some w.heap.size) → wpList Try.prog ops Q rest (a.put o.dst v') w') : wpList Try.prog ops Q (o :: rest) a w := by
  refine wpList_plain hgd fun K hK => ?_
  obtain ⟨v', w', hr, h2, h3, h4⟩ := run_appTh w B S o.type v vx T X hown hin hlen hlx hB
  unfold Oper.wp execOp
  simp only [ho, resolve, invoke, builtin, Sem.run_bind, Sem.run_pure, Result.andThen_ok, List.map_toArray, List.map_cons, List.map_nil, hs, hx, hr]
  exact hK _ _ (h v' w' h2 h3 h4)
/-- A literal of one thing, laid in a new block. -/
theorem litTh_in (w : World) (k m : Int) : ThIn (fun b => b = w.heap.size) (w.alloc (.cells #[.int .i8 k, .int .i64 m] 28)) (.slice (some ⟨w.heap.size, 0, none⟩) 1 1) [(k, m)] := by
  refine ⟨_, 1, rfl, by simp, by decide, .inr ⟨w.heap.size, 0, rfl, rfl, by simp, fun j hj => ?_⟩⟩
  obtain rfl : j = 0 := by simpa using hj
  refine ⟨?_, ?_⟩ <;> (rw [cell_of_row _ w.heap.size _ _ _ (0, 0) (heap_alloc_new w _)]; rfl)

/-- A function value that is called without arguments: a closure, or Next of a cursor that was made. -/
inductive Fv : Value → Nat → Array Value → Prop
  | clo (k : Nat) (lb : Array Value) (h : ∀ args w, (callFunc k args).run Try.prog w = .ok (.enter k args) w) : Fv (.func (.func k) #[] lb) k lb
  | next (b : Nat) : Fv (.func (.method "Next") #[.iface 112 (.pointer (some ⟨b, 0, none⟩))] #[]) 49 #[.pointer (some ⟨b, 0, none⟩)]
/-- Y' has nothing that Y has not but blocks from n on. -/
def Sub (n : Nat) (Y Y' : Nat → Prop) : Prop := ∀ k, Y' k → Y k ∨ n ≤ k
/-- What a function does that tells: each call tells the next of L, and turns blocks of Y alone; G holds all the while. -/
def Tells (k : Nat) (lb : Array Value) (G : (Nat → Prop) → List Th → World → Prop) (Y : Nat → Prop) (L : List Th) (w : World) : Prop :=
  (∀ b, Y b → b < w.heap.size) ∧ ∃ (J : (Nat → Prop) → List Th → World → Prop) (Y0 : Nat → Prop), (∀ b, Y0 b → Y b) ∧ J Y0 L w ∧
    (∀ Y L w, J Y L w → (∀ b, Y b → b < w.heap.size) ∧ G Y L w) ∧
    (∀ Y L w w', J Y L w → w.heap.size ≤ w'.heap.size → (∀ b, Y b → w'.heap[b]? = w.heap[b]?) → J Y L w') ∧
    (∀ Y L w, J Y L w → Calls Try.prog k lb w fun e w' => e = .returned (headV L) ∧ Upd (allOf Y) w w' ∧ ∃ Y', Sub w.heap.size Y Y' ∧ J Y' L.tail w')
section
variable {k : Nat} {lb : Array Value} {G : (Nat → Prop) → List Th → World → Prop} {Y Z : Nat → Prop} {L : List Th} {w w' : World}
theorem Tells.inside (h : Tells k lb G Y L w) : ∀ b, Y b → b < w.heap.size := h.1
theorem Tells.ghost (h : Tells k lb G Y L w) : ∃ Y0, (∀ b, Y0 b → Y b) ∧ G Y0 L w := by
  obtain ⟨-, J, Y0, hy, h1, h2, -⟩ := h
  exact ⟨Y0, hy, (h2 _ _ _ h1).2⟩
theorem Tells.keep (h : Tells k lb G Y L w) (hs : w.heap.size ≤ w'.heap.size) (hb : ∀ b, Y b → w'.heap[b]? = w.heap[b]?) : Tells k lb G Y L w' := by
  obtain ⟨h0, J, Y0, hy, h1, h2, h3, h4⟩ := h
  exact ⟨fun b e => Nat.lt_of_lt_of_le (h0 b e) hs, J, Y0, hy, h3 _ _ _ _ h1 hs (fun b e => hb b (hy b e)), h2, h3, h4⟩
theorem Tells.mono (h : Tells k lb G Y L w) (hz : ∀ b, Y b → Z b) (hi : ∀ b, Z b → b < w.heap.size) : Tells k lb G Z L w := by
  obtain ⟨h0, J, Y0, hy, h1⟩ := h
  exact ⟨hi, J, Y0, fun b e => hz b (hy b e), h1⟩
theorem Tells.step (h : Tells k lb G Y L w) : Calls Try.prog k lb w fun e w' => e = .returned (headV L) ∧ Upd (allOf Y) w w' ∧ ∃ Y', Sub w.heap.size Y Y' ∧ Tells k lb G Y' L.tail w' := by
  obtain ⟨h0, J, Y0, hy, h1, h2, h3, h4⟩ := h
  refine (h4 _ _ _ h1).mono ?_
  rintro e w' ⟨rfl, hu, Y', hs, hj⟩
  exact ⟨rfl, hu.allMono hy, Y', fun b e => (hs b e).imp_left (hy b), (h2 _ _ _ hj).1, J, Y', fun _ e => e, hj, h2, h3, h4⟩
end

/-- The deferred closure, where nothing panics. -/
theorem told_idle (w : World) : CallsD Try.prog 90 #[] .returning w fun e u' w' => e = .returned (.tuple #[]) ∧ u' = .returning ∧ w' = w := by
  refine callsD_of_wpS Try.func90 rfl fun c₀ cs hu => ?_
  apply wpS_region
  simp [wpOpsS, go_sem, recoverD, hu, Try.ntmps90, bodyPostS, results, Try.results90]
  cases c₀
  simp_all
end Go.Proofs.Ytcfnpbmkcdmafaa
