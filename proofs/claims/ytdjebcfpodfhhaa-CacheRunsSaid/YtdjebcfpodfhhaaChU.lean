/-
  Words for the law CacheRoom: what the rounds keep; a row of held pages with one more ahead.
-/
import Derived.Test.YtdjebcfpodfhhaaChH
import Derived.Test.YtdjebcfpodfhhaaChY
import Derived.Test.YtdjebcfpodfhhaaChOq
namespace Go.Proofs.Ytdjebcfpodfhhaa
open Go Go.RowKit Go.Maps Go.WideMaps

theorem EntA.below {W W' : World} {v : Value} (h : EntA W v) (hb : Below W.heap.size W W') : EntA W' v := by
  obtain ⟨pt, lt, ct, rfl, h1, h2⟩ := h
  exact ⟨pt, lt, ct, rfl, h1, fun h20 => by obtain ⟨E, e, hE⟩ := h2 h20; exact ⟨E, e, hE.grown hb⟩⟩
theorem OpsA.below {W W' : World} {v : Value} {L : List OpV} (h : OpsA W v L) (hb : Below W.heap.size W W') : OpsA W' v L := by
  obtain ⟨p, cap, rfl, h1, h2, h3⟩ := h
  refine ⟨p, cap, rfl, h1, ?_, fun x hx => ⟨(h3 x hx).1, (h3 x hx).2.1, (h3 x hx).2.2.1, (h3 x hx).2.2.2.below hb⟩⟩
  rcases h2 with h | ⟨b, off, rfl, hlt, hc⟩
  · exact .inl h
  · exact .inr ⟨b, off, rfl, Nat.lt_of_lt_of_le hlt hb.size, fun j x hj => ⟨(hb.cell (p := ⟨b, _, none⟩) hlt).trans (hc j x hj).1, (hb.cell (p := ⟨b, _, none⟩) hlt).trans (hc j x hj).2.1, (hb.cell (p := ⟨b, _, none⟩) hlt).trans (hc j x hj).2.2.1, (hb.cell (p := ⟨b, _, none⟩) hlt).trans (hc j x hj).2.2.2⟩⟩
/-- What the rounds keep. -/
structure RoJ (w0 wr : World) (Z : Nat → Prop) (cnt c n k : Nat) (lv : Value) (Hs Lc : List Pg) (h m g : Int) : Prop where
  ca : CaY Z cnt wr c (n : Int) h m g Lc
  held : HeIn (fun b => w0.heap.size ≤ b ∧ ¬ Z b) wr lv Hs
  lo : ∀ b, Z b → w0.heap.size ≤ b
  below : Below w0.heap.size w0 wr
  inv : ∀ x ∈ Lc, findL x.1 x.2.1 Hs = some x
  hl : Hs.length ≤ k
  cl : cnt ≤ k
  hk1 : h ≤ k
  mk1 : m ≤ k
  gk1 : g ≤ k
def RoS (w0 wr : World) (c n k : Nat) (lv : Value) : Prop := ∃ Z cnt Hs Lc h m g, RoJ w0 wr Z cnt c n k lv Hs Lc h m g
theorem CaY.ltZ {Z : Nat → Prop} {cnt : Nat} {w : World} {c : Nat} {room h m g : Int} {L : List Pg} (H : CaY Z cnt w c room h m g L) : ∀ k, Z k → k < w.heap.size := by
  obtain ⟨_, _, _, _, _, _, _, _, _, _, _, _, h, _⟩ := H
  exact h
theorem CaY.len {Z : Nat → Prop} {cnt : Nat} {w : World} {c : Nat} {room h m g : Int} {L : List Pg} (H : CaY Z cnt w c room h m g L) : (L.length : Int) ≤ room ∧ room ≤ 1024 := by
  obtain ⟨_, _, _, _, _, _, _, _, _, _, _, _, _, h8, h9, _⟩ := H
  exact ⟨h9, h8.2⟩
theorem RoJ.keep {w0 wr W : World} {Z : Nat → Prop} {cnt c n k : Nat} {lv : Value} {Hs Lc : List Pg} {h m g : Int} (H : RoJ w0 wr Z cnt c n k lv Hs Lc h m g) (hb : Below wr.heap.size wr W) : RoJ w0 W Z cnt c n k lv Hs Lc h m g :=
  ⟨H.ca.below hb, H.held.inside.same (fun _ hk => hk.1) (fun b o hk => hb.cell (p := ⟨b, o, none⟩) hk.2), H.lo, H.below.trans (hb.mono H.below.size), H.inv, H.hl, H.cl, H.hk1, H.mk1, H.gk1⟩
theorem RoS.keep {w0 wr W : World} {c n k : Nat} {lv : Value} (H : RoS w0 wr c n k lv) (hb : Below wr.heap.size wr W) : RoS w0 W c n k lv := by
  obtain ⟨Z, cnt, Hs, Lc, h, m, g, H⟩ := H
  exact ⟨Z, cnt, Hs, Lc, h, m, g, H.keep hb⟩
theorem RoS.below {w0 wr : World} {c n k : Nat} {lv : Value} (H : RoS w0 wr c n k lv) : Below w0.heap.size w0 wr := by
  obtain ⟨Z, cnt, Hs, Lc, h, m, g, H⟩ := H
  exact H.below
theorem RoS.up {w0 wr : World} {c n k k' : Nat} {lv : Value} (H : RoS w0 wr c n k lv) (hk : k ≤ k') : RoS w0 wr c n k' lv := by
  obtain ⟨Z, cnt, Hs, Lc, h, m, g, H⟩ := H
  exact ⟨Z, cnt, Hs, Lc, h, m, g, H.ca, H.held, H.lo, H.below, H.inv, Nat.le_trans H.hl hk, Nat.le_trans H.cl hk, by have := H.hk1; omega, by have := H.mk1; omega, by have := H.gk1; omega⟩
theorem upd_below {Z : Nat → Prop} {w W : World} {n : Nat} (h : Upd (allOf Z) w W) (hn : n ≤ w.heap.size) (hZ : ∀ k, Z k → n ≤ k) : Below n w W := h.below hn (fun k _ e => hZ k e)
theorem findL_mem {r : ByteArray} {i : Int} {L : List Pg} {x : Pg} (h : findL r i L = some x) : x ∈ L := List.mem_of_find?_eq_some h
theorem RoJ.get {w0 wr W : World} {Z : Nat → Prop} {cnt c n k : Nat} {lv : Value} {Hs Lc : List Pg} {h m g : Int} (H : RoJ w0 wr Z cnt c n k lv Hs Lc h m g) {r : ByteArray} {i : Int} {e : Ending} (hg : GetY Z cnt wr c (n : Int) h m g Lc r i e W) : RoS w0 W c n (k + 1) lv ∧ Below w0.heap.size wr W := by
  obtain ⟨hu, hg⟩ := hg
  have hb := upd_below hu H.below.size H.lo
  have hh : HeIn (fun b => w0.heap.size ≤ b ∧ ¬ Z b) W lv Hs := H.held.inside.same (fun _ hk => hk.1) (fun b o hk => hu.cell b o hk.2 hk.1.2)
  refine ⟨?_, hb⟩
  have hk := H.hk1
  have mk := H.mk1
  have gk := H.gk1
  rcases hg with ⟨-, -, hc⟩ | ⟨x, v, hx, -, hc, -⟩
  · exact ⟨Z, cnt, Hs, Lc, h, m + 1, g, hc, hh, H.lo, H.below.trans hb, H.inv, Nat.le_succ_of_le H.hl, Nat.le_succ_of_le H.cl, by omega, by omega, by omega⟩
  · refine ⟨Z, cnt, Hs, _, h + 1, m, g, hc, hh, H.lo, H.below.trans hb, fun y hy => ?_, Nat.le_succ_of_le H.hl, Nat.le_succ_of_le H.cl, by omega, by omega, by omega⟩
    rcases List.mem_cons.1 hy with rfl | hy
    · exact H.inv _ (findL_mem hx)
    · exact H.inv _ (List.mem_filter.1 hy).1
theorem RoJ.drop {w0 wr W : World} {Z : Nat → Prop} {cnt c n k : Nat} {lv : Value} {Hs Lc : List Pg} {h m g : Int} (H : RoJ w0 wr Z cnt c n k lv Hs Lc h m g) {nm : ByteArray} {e : Ending} (hg : DropY Z cnt wr c (n : Int) h m g Lc nm e W) : RoS w0 W c n (k + 1) lv ∧ Below w0.heap.size wr W := by
  obtain ⟨-, hu, hc⟩ := hg
  have hb := upd_below hu H.below.size H.lo
  have hh : HeIn (fun b => w0.heap.size ≤ b ∧ ¬ Z b) W lv Hs := H.held.inside.same (fun _ hk => hk.1) (fun b o hk => hu.cell b o hk.2 hk.1.2)
  have hk := H.hk1
  have mk := H.mk1
  have gk := H.gk1
  exact ⟨⟨Z, cnt, Hs, _, h, m, g, hc, hh, H.lo, H.below.trans hb, fun y hy => H.inv _ (List.mem_filter.1 hy).1, Nat.le_succ_of_le H.hl, Nat.le_succ_of_le H.cl, by omega, by omega, by omega⟩, hb⟩
/-- The cells of pages that are held, as a row. -/
def rowH (Q : List (Value × Pg)) : List Value := Q.flatMap fun q => [.string q.2.1, .int .i64 q.2.2.1, q.1]
theorem rowH_len (Q : List (Value × Pg)) : (rowH Q).length = Q.length * 3 := by
  induction Q with
  | nil => rfl
  | cons q Q ih => simp only [rowH, List.flatMap_cons, List.length_append, List.length_cons, List.length_nil] at ih ⊢; omega
theorem rowH_at : ∀ (Q : List (Value × Pg)) (j : Nat) (q : Value × Pg), Q[j]? = some q → (rowH Q)[j * 3]? = some (.string q.2.1) ∧ (rowH Q)[j * 3 + 1]? = some (.int .i64 q.2.2.1) ∧ (rowH Q)[j * 3 + 2]? = some q.1
  | [], j, q, h => by simp at h
  | x :: r, 0, q, h => by
    simp at h
    subst h
    exact ⟨rfl, rfl, rfl⟩
  | x :: r, j + 1, q, h => by
    have := rowH_at r j q (by simpa using h)
    rw [show (j + 1) * 3 = j * 3 + 1 + 1 + 1 by omega]
    exact this
theorem rowH_cell {W : World} {b : Nat} : ∀ (Q : List (Value × Pg)) (off : Nat), CellsH W b off Q → ∀ j u, (rowH Q)[j]? = some u → W.cell? ⟨b, off + j, none⟩ = some u
  | [], _, _ => fun j u hu => by simp [rowH] at hu
  | q :: r, off, h => fun j u hu => by
    have h0 := h 0 q rfl
    simp only [Nat.zero_mul, Nat.add_zero] at h0
    have e : rowH (q :: r) = .string q.2.1 :: .int .i64 q.2.2.1 :: q.1 :: rowH r := rfl
    rw [e] at hu
    rcases j with _ | _ | _ | j
    · simp at hu; rw [← hu]; exact h0.1
    · simp at hu; rw [← hu]; exact h0.2.1
    · simp at hu; rw [← hu]; exact h0.2.2
    · have hr : CellsH W b (off + 3) r := fun i q hi => by
        have h1 := h (i + 1) q (by simpa using hi)
        rw [show off + (i + 1) * 3 = off + 3 + i * 3 by omega] at h1
        exact h1
      have := rowH_cell r (off + 3) hr j u (by simpa using hu)
      rw [show off + (j + 1 + 1 + 1) = off + 3 + j by omega]
      exact this
theorem infoH : (Try.prog.info? 52).map (fun i => (i.zero, i.size, i.bytes)) = some (some (.agg #[.string ⟨#[]⟩, .int .i64 0, .slice none 0 0]), 3, 48) := by kernel_rfl
theorem run_append_nilH (w : World) (B : Nat) (ty : TypeId) (v : Value) (n : Nat) (xs : List Value) (hown : w.ownsRow B 52 3 v n xs) (c : Nat) : (Builtin.append_ #[44, 44] ty #[v, .slice none 0 c]).run Try.prog w = .ok v w := by
  obtain ⟨i0, hi, -, -, -⟩ := info_parts infoH
  rcases hown.2 with ⟨rfl, -⟩ | ⟨g, cap, cur, rfl, -, -, hnc, -⟩
  · simp [Builtin.append_, run_underlying Try.underlying44, sizeOf, typeInfo, hi, Builtin.lenOf, Builtin.firstCells]
  · simp [Builtin.append_, run_underlying Try.underlying44, sizeOf, typeInfo, hi, Builtin.lenOf, Builtin.firstCells, hnc, storeCells]
/-- All the held pages behind one more. -/
theorem step_appH {ops : Array Oper} {o : Oper} {a : Act} {w : World} {K : Act → World → Prop} {Q' : Exit → Act → World → Prop} {E : Prop} (hgd : o.guard = none) (s x : Operand)
    (ho : o.op = .call { callee := .builtin .append, args := #[s, x], argTypes := #[44, 44] }) (B : Nat) (v : Value) (q0 : Value × Pg) (p : Option Addr) (cap : Nat) (Q : List (Value × Pg)) (hs : a.eval s = v) (hx : a.eval x = .slice p Q.length cap)
    (hown : w.ownsRow B 52 3 v 1 (rowH [q0])) (hl : Q.length ≤ 1000) (hB : B ≤ w.heap.size) (hc : Q = [] ∨ ∃ b off, p = some ⟨b, off, none⟩ ∧ CellsH w b off Q) (h1 : ∀ q ∈ Q, ∃ pp l c, q.1 = .slice pp l c)
    (h : ∀ p' c' w', w'.ownsRow B 52 3 (.slice p' (Q.length + 1) c') (Q.length + 1) (rowH (q0 :: Q)) → w.grownBy w' v.ownBlock → K (a.put o.dst (.slice p' (Q.length + 1) c')) w') :
    if Region.wanted o (yielded ops a.tmps) = true then Oper.wp Try.prog o a w K Q' else E := by
  have hw : Region.wanted o (yielded ops a.tmps) = true := by simp [Region.wanted, hgd]
  rw [if_pos hw]
  obtain ⟨i0, hi, hz0, hz1, hz2⟩ := info_parts infoH
  have key : ∃ v' w', (Builtin.append_ #[44, 44] o.type #[v, .slice p Q.length cap]).run Try.prog w = .ok v' w' ∧ w'.ownsRow B 52 3 v' (1 + Q.length) (rowH [q0] ++ rowH Q) ∧ w.grownBy w' v.ownBlock := by
    have some_ : ∀ ad, p = some ad → (∀ j u, (rowH Q)[j]? = some u → w.cell? (ad.add j) = some u) → ∃ v' w', (Builtin.append_ #[44, 44] o.type #[v, .slice p Q.length cap]).run Try.prog w = .ok v' w' ∧ w'.ownsRow B 52 3 v' (1 + Q.length) (rowH [q0] ++ rowH Q) ∧ w.grownBy w' v.ownBlock := by
      rintro ad rfl hcell
      obtain ⟨v', w', hr, ho', hg, -, -⟩ := run_append_own_at (P := Try.prog) w B 44 o.type 52 i0 (.agg #[.string ⟨#[]⟩, .int .i64 0, .slice none 0 0]) 3 48 Try.underlying44 hi hz0 hz1 hz2 rfl (by decide) v 1 (rowH [q0]) hown ad Q.length cap (rowH Q)
        (rowH_len Q) hcell (fun u hu => by
          simp only [rowH, List.mem_flatMap] at hu
          obtain ⟨q, hq, hu⟩ := hu
          obtain ⟨pp, l, c, e⟩ := h1 q hq
          simp only [List.mem_cons, List.not_mem_nil, or_false] at hu
          rcases hu with rfl | rfl | rfl
          · rfl
          · rfl
          · rw [e]; rfl) (by unfold maxLen; omega) (by omega) hB
      exact ⟨v', w', hr, ho', hg⟩
    rcases hc with rfl | ⟨b, off, rfl, hc⟩
    · rcases p with _ | ad
      · exact ⟨v, w, run_append_nilH w B o.type v _ _ hown cap, by simpa [rowH] using hown, World.grownBy.refl w _⟩
      · exact some_ ad rfl fun j u hu => by simp [rowH] at hu
    · exact some_ _ rfl fun j u hu => by
        rw [addr_add]
        exact rowH_cell Q off hc j u hu
  obtain ⟨v', w', hr, ho', hg⟩ := key
  rw [Nat.add_comm] at ho'
  obtain ⟨g, c', e, -⟩ := World.ownsRow.form ho' (by omega)
  subst e
  unfold Oper.wp execOp
  simp only [ho, resolve, invoke, builtin, Sem.run_bind, Sem.run_pure, Result.andThen_ok, List.map_toArray, List.map_cons, List.map_nil, hs, hx, hr]
  exact h _ _ w' ho' hg
end Go.Proofs.Ytdjebcfpodfhhaa
