/-
  Bytes in general: what reads as bytes, append, slices.Clone, cut.
-/
import Derived.Test.YtnmeehhjfcciiaaDkAl
import Derived.Laws.OwnMore
namespace Go.Proofs.Ytnmeehhjfcciiaa
open Go Go.RowKit Go.Maps Go.WideMaps

/-- Bytes as cells. -/
def BV (l : List UInt8) : List Value := l.map fun x => Value.int .u8 ((x.toNat : Nat) : Int)
theorem bv_len (l : List UInt8) : (BV l).length = l.length := by simp [BV]
theorem bv_app (l m : List UInt8) : BV (l ++ m) = BV l ++ BV m := by simp [BV]
theorem bv_one (l : List UInt8) : ∀ u ∈ BV l, u.oneCell' = true := by
  intro u hu
  obtain ⟨x, -, rfl⟩ := List.mem_map.1 hu
  rfl
theorem bv_at {l : List UInt8} {j : Nat} {u : Value} (h : (BV l)[j]? = some u) : ∃ hj : j < l.length, u = .int .u8 ((l[j].toNat : Nat) : Int) := by
  have hj : j < l.length := by
    have := (List.getElem?_eq_some_iff.1 h).1
    rwa [bv_len] at this
  refine ⟨hj, ?_⟩
  simp only [BV, List.getElem?_map, List.getElem?_eq_getElem hj, Option.map_some, Option.some.injEq] at h
  exact h.symm
/-- The bytes that a file has, in a row from block n on. -/
def OwnF (n : Nat) (w : World) (v : Value) (l : List UInt8) : Prop := w.ownsRow n 5 1 v l.length (BV l)
theorem OwnF.base {n m : Nat} {w : World} {v : Value} {l : List UInt8} (h : OwnF n w v l) (hm : m ≤ n) : OwnF m w v l := own_base h hm
theorem OwnF.grow {S : Nat → Prop} {n : Nat} {w w' : World} {v : Value} {l : List UInt8} (h : OwnF n w v l) (hg : Grow S w w') (hn : ∀ k, v.ownBlock = some k → ¬ S k) : OwnF n w' v l := own_grow h hg hn
theorem OwnF.nil (n : Nat) (w : World) : OwnF n w (.slice none 0 0) [] := World.ownsRow_nil w n _ 1
/-- What reads as bytes, in a block below n. -/
def RdIn (n : Nat) (w : World) (v : Value) (l : List UInt8) : Prop :=
  (l = [] ∧ (v = .slice none 0 0 ∨ ∃ a cap, v = .slice (some a) 0 cap)) ∨
    ∃ b off cap, v = .slice (some ⟨b, off, none⟩) l.length cap ∧ b < n ∧ ∀ j (h : j < l.length), w.cell? ⟨b, off + j, none⟩ = some (.int .u8 ((l[j].toNat : Nat) : Int))
theorem RdIn.grow {S : Nat → Prop} {n : Nat} {w w' : World} {v : Value} {l : List UInt8} (h : RdIn n w v l) (hg : Grow S w w') (hn : n ≤ w.heap.size) (hS : ∀ b off n cap, v = .slice (some ⟨b, off, none⟩) n cap → ¬ S b) : RdIn n w' v l := by
  rcases h with h | ⟨b, off, cap, rfl, hb, hc⟩
  · exact .inl h
  · exact .inr ⟨b, off, cap, rfl, hb, fun j hj => (World.cell?_of_block (a := ⟨b, off + j, none⟩) (hg.block b (by omega) (hS b off _ cap rfl))).trans (hc j hj)⟩
theorem RdIn.same {n : Nat} {w w' : World} {v : Value} {l : List UInt8} (h : RdIn n w v l) (hg : Grow (fun _ => False) w w') (hn : n ≤ w.heap.size) : RdIn n w' v l := h.grow hg hn (fun _ _ _ _ _ e => e)
theorem RdIn.mono {n m : Nat} {w : World} {v : Value} {l : List UInt8} (h : RdIn n w v l) (hm : n ≤ m) : RdIn m w v l := by
  rcases h with h | ⟨b, off, cap, rfl, hb, hc⟩
  · exact .inl h
  · exact .inr ⟨b, off, cap, rfl, by omega, hc⟩
theorem OwnF.form {n : Nat} {w : World} {v : Value} {l : List UInt8} (h : OwnF n w v l) : (l = [] ∧ v = .slice none 0 0) ∨ ∃ b cap, v = .slice (some ⟨b, 0, none⟩) l.length cap ∧ n ≤ b ∧ b < w.heap.size ∧ l.length ≤ cap ∧ cap ≤ maxLen ∧ ∀ j (hj : j < l.length), w.cell? ⟨b, 0 + j, none⟩ = some (.int .u8 ((l[j].toNat : Nat) : Int)) := by
  have hc := fun g (hg : v.ownBlock = some g) => World.ownsRow.cells h (g := g) hg
  rcases h.2 with ⟨rfl, h0⟩ | ⟨g, cap, cur, rfl, hb, hg, h2, h3, -, -⟩
  · exact .inl ⟨List.eq_nil_of_length_eq_zero h0, rfl⟩
  · refine .inr ⟨g, cap, rfl, hb, (Array.getElem?_eq_some_iff.1 hg).1, h2, h3, fun j hj => ?_⟩
    have e := hc g (by simp [Value.ownBlock]) j (.int .u8 ((l[j].toNat : Nat) : Int)) (by simp [BV, hj])
    have a : (⟨g, 0, none⟩ : Addr).add j = ⟨g, j, none⟩ := by unfold Addr.add; split <;> simp_all
    rw [a] at e
    rw [Nat.zero_add]
    exact e
theorem OwnF.read {n : Nat} {w : World} {v : Value} {l : List UInt8} (h : OwnF n w v l) : RdIn w.heap.size w v l := by
  rcases h.form with ⟨h1, h2⟩ | ⟨b, cap, h1, -, h3, -, -, h5⟩
  · exact .inl ⟨h1, .inl h2⟩
  · exact .inr ⟨b, 0, cap, h1, h3, h5⟩
/-- An append of bytes onto a row of the call's own. -/
theorem run_appB {w : World} {n n0 : Nat} (ty : TypeId) {v x : Value} {L l : List UInt8} (hown : OwnF n w v L) (hx : RdIn n0 w x l) (hlen : L.length + l.length ≤ 100000000000000) (hn : n ≤ w.heap.size) :
    ∃ v' w', (Builtin.append_ #[22, 22] ty #[v, x]).run Try.prog w = .ok v' w' ∧ OwnF n w' v' (L ++ l) ∧ w.grownBy w' v.ownBlock ∧ (v'.ownBlock = v.ownBlock ∨ v'.ownBlock = some w.heap.size) := by
  obtain ⟨i0, hi, hz0, hz1, hz2⟩ := info_parts infoU8
  have H : ∀ (a : Addr) (cap : Nat), x = .slice (some a) l.length cap → (∀ j u, (BV l)[j]? = some u → w.cell? (a.add j) = some u) →
      ∃ v' w', (Builtin.append_ #[22, 22] ty #[v, x]).run Try.prog w = .ok v' w' ∧ OwnF n w' v' (L ++ l) ∧ w.grownBy w' v.ownBlock ∧ (v'.ownBlock = v.ownBlock ∨ v'.ownBlock = some w.heap.size) := by
    rintro a cap rfl hnews
    obtain ⟨v', w', hr, ho, hg, -, hl⟩ := run_append_own_at (P := Try.prog) w n 22 ty 5 i0 (.int .u8 0) 1 1 Try.underlying22 hi hz0 hz1 hz2 rfl (by decide) v _ _ hown a l.length cap (BV l)
      (by rw [bv_len]; omega) hnews (bv_one l) (by unfold maxLen; omega) (by omega) hn
    refine ⟨v', w', hr, ?_, hg, hl⟩
    unfold OwnF
    rw [List.length_append, bv_app]
    exact ho
  rcases hx with ⟨rfl, rfl | ⟨a, cap, rfl⟩⟩ | ⟨b, off, cap, rfl, hb, hc⟩
  · exact ⟨v, w, run_append_owned_none (P := Try.prog) w n _ _ _ i0 1 Try.underlying22 hi v _ _ hown, by rw [List.append_nil]; exact hown, World.grownBy.refl w _, .inl rfl⟩
  · exact H a cap rfl (fun j u hu => by simp [BV] at hu)
  · refine H ⟨b, off, none⟩ cap rfl (fun j u hu => ?_)
    obtain ⟨hj, rfl⟩ := bv_at hu
    have a : (⟨b, off, none⟩ : Addr).add j = ⟨b, off + j, none⟩ := by unfold Addr.add; split <;> simp_all
    rw [a]
    exact hc j hj
theorem wpList_appB {ops : Array Oper} {rest : List Oper} {o : Oper} {a : Act} {w : World} {Q : Exit → Act → World → Prop} (hgd : o.guard = none) (s x : Operand)
    (ho : o.op = .call { callee := .builtin .append, args := #[s, x], argTypes := #[22, 22] })
    {n n0 : Nat} {v vx : Value} {L l : List UInt8} (hs : a.eval s = v) (hx : a.eval x = vx) (hown : OwnF n w v L) (hin : RdIn n0 w vx l) (hlen : L.length + l.length ≤ 100000000000000) (hn : n ≤ w.heap.size)
    (h : ∀ v' w', OwnF n w' v' (L ++ l) → w.grownBy w' v.ownBlock → (v'.ownBlock = v.ownBlock ∨ v'.ownBlock = some w.heap.size) → wpList Try.prog ops Q rest (a.put o.dst v') w') : wpList Try.prog ops Q (o :: rest) a w := by
  refine wpList_plain hgd fun K hK => ?_
  obtain ⟨v', w', hr, h2, h3, h4⟩ := run_appB o.type hown hin hlen hn
  unfold Oper.wp execOp
  simp only [ho, resolve, invoke, builtin, Sem.run_bind, Sem.run_pure, Result.andThen_ok, List.map_toArray, List.map_cons, List.map_nil, hs, hx, hr]
  exact hK _ _ (h v' w' h2 h3 h4)
set_option maxRecDepth 100000 in
set_option maxHeartbeats 2000000 in
theorem cloneB_some (w : World) (a : Addr) (cap : Nat) (l : List UInt8) (h : RdIn w.heap.size w (.slice (some a) l.length cap) l) (hl : l.length ≤ 1000000) :
    Calls Try.prog 38 #[.slice (some a) l.length cap] w fun e w' => ∃ v, e = .returned v ∧ OwnF w.heap.size w' v l ∧ Grow (fun _ => False) w w' := by
  have q := fun W : World => Lib.run_eql_slice_nil W 22 5 (some a) l.length cap 0 0 Try.underlying22
  have HR := Lib.hid (h.same ((Grow.refl _ w).alloc (.cells #[] 5)) (Nat.le_refl _))
  have HO := Lib.hid (show OwnF w.heap.size (w.alloc (.cells #[] 5)) (.slice (some ⟨w.heap.size, 0, none⟩) 0 0) [] from World.ownsRow_made w #[] 0 (Nat.le_refl _) (by decide) rfl)
  have hl2 : ([] : List UInt8).length + l.length ≤ 100000000000000 := by simp; omega
  have hn : w.heap.size ≤ (w.alloc (.cells #[] 5)).heap.size := by simp
  clear h
  go_enter Try.func38, Try.ntmps38
  go_wp2_with (at_builtin; refine wpList_appB rfl (.tmp 5) (.tmp 6) rfl rfl rfl HO.out HR.out hl2 hn ?_; intro v5 w5 how5 hgr5 hlo5)
  have HEnd := Lib.hid (And.intro (show OwnF w.heap.size w5 v5 l from how5) (((Grow.refl (fun _ => False) w).alloc (.cells #[] 5)).grownNew (r := w.heap.size) hgr5 (Nat.le_refl _)))
  clear how5 hgr5 hlo5
  go_ret
  exact ⟨v5, by simp, HEnd.out.1, HEnd.out.2⟩
theorem cloneB_any (w : World) (v : Value) (l : List UInt8) (h : RdIn w.heap.size w v l) (hl : l.length ≤ 1000000) :
    Calls Try.prog 38 #[v] w fun e w' => ∃ v', e = .returned v' ∧ OwnF w.heap.size w' v' l ∧ Grow (fun _ => False) w w' := by
  have h' := h
  rcases h with ⟨rfl, rfl | ⟨a, cap, rfl⟩⟩ | ⟨b, off, cap, rfl, hb, hc⟩
  · refine (cloneB_nil w).mono ?_
    rintro e w' ⟨rfl, rfl⟩
    exact ⟨_, rfl, OwnF.nil _ _, Grow.refl _ _⟩
  · exact cloneB_some w a cap [] h' hl
  · exact cloneB_some w ⟨b, off, none⟩ cap l h' hl
end Go.Proofs.Ytnmeehhjfcciiaa
