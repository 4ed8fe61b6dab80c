/-
  The laws' rest of a cursor over numbers; merge.Turn.
-/
import Derived.Test.YtemfglpjokmioaaMgTi
namespace Go.Proofs.Ytemfglpjokmioaa
open Go Go.RowKit Go.Shelf

theorem infoIn : (Try.prog.info? 3).map (fun i => (i.zero, i.size, i.bytes)) = some (some (.int .i64 0), 1, 8) := by kernel_rfl
def marks (L : List Th) : List Value := L.map fun x => .int .i64 x.2
/-- A slice value that the call owns holds the marks of these things. -/
def OwnI (B : Nat) (w : World) (v : Value) (L : List Th) : Prop := w.ownsRow B 3 1 v L.length (marks L)
theorem OwnI.keep {B : Nat} {w w' : World} {v : Value} {L : List Th} (h : OwnI B w v L) (hb : ∀ k, v.ownBlock = some k → w'.heap[k]? = w.heap[k]?) : OwnI B w' v L := by
  refine ⟨h.1, ?_⟩
  rcases h.2 with hn | ⟨g, cap, cur, rfl, hB, hg, rest⟩
  · exact .inl hn
  · exact .inr ⟨g, cap, cur, rfl, hB, (hb g rfl).trans hg, rest⟩
theorem OwnI.lt {B : Nat} {w : World} {v : Value} {L : List Th} (h : OwnI B w v L) : ∀ k, v.ownBlock = some k → B ≤ k ∧ k < w.heap.size := World.ownsRow.lt h
theorem OwnI.form {B : Nat} {w : World} {v : Value} {L : List Th} (h : OwnI B w v L) : ∃ p c, v = .slice p L.length c := by
  rcases h.2 with ⟨rfl, h0⟩ | ⟨g, cap, cur, rfl, -⟩
  · exact ⟨none, 0, by rw [h0]⟩
  · exact ⟨_, cap, rfl⟩
/-- An append of one mark, laid in a block of its own. -/
theorem wpList_appI {ops : Array Oper} {rest : List Oper} {o : Oper} {a : Act} {w : World} {Q : Exit → Act → World → Prop} (hgd : o.guard = none) (s x : Operand)
    (ho : o.op = .call { callee := .builtin .append, args := #[s, x], argTypes := #[52, 52] })
    (B : Nat) (v : Value) (T : List Th) (y : Th) (ad : Addr) (hs : a.eval s = v) (hx : a.eval x = .slice (some ad) 1 1) (hown : OwnI B w v T) (hc : w.cell? (ad.add 0) = some (.int .i64 y.2)) (hlen : T.length ≤ 1000000) (hB : B ≤ w.heap.size)
    (h : ∀ v' w', OwnI B w' v' (T ++ [y]) → w.grownBy w' v.ownBlock → (v'.ownBlock = v.ownBlock ∨ v'.ownBlock = some w.heap.size) → wpList Try.prog ops Q rest (a.put o.dst v') w') : wpList Try.prog ops Q (o :: rest) a w := by
  refine wpList_plain hgd fun K hK => ?_
  obtain ⟨i0, hi, hz0, hz1, hz2⟩ := info_parts infoIn
  obtain ⟨v', w', hr, h2, h3, -, h4⟩ := run_append_own_at (P := Try.prog) w B 52 o.type 3 i0 (.int .i64 0) 1 8 Try.underlying52 hi hz0 hz1 hz2 rfl (by decide) v _ _ hown ad 1 1 [.int .i64 y.2] rfl (fun j u hu => by match j, hu with | 0, hu => cases hu; exact hc) (fun u hu => by simp only [List.mem_singleton] at hu; subst hu; rfl) (by unfold maxLen; omega) (by omega) hB
  unfold Oper.wp execOp
  simp only [ho, resolve, invoke, builtin, Sem.run_bind, Sem.run_pure, Result.andThen_ok, List.map_toArray, List.map_cons, List.map_nil, hs, hx, hr]
  refine hK _ _ (h v' w' ?_ h3 h4)
  unfold OwnI marks
  rw [List.length_append, List.map_append]
  exact h2
/-- What the loop of rest keeps. -/
def RiJ (b r cf : Nat) (Y : Nat → Prop) (P L : List Th) (w : World) (v : Value) (w' : World) : Prop :=
  OwnI w.heap.size w' v P ∧ Upd (allOf Y) w w' ∧ ∃ Y', Sub w.heap.size Y Y' ∧ MadeI b r cf Y' L w' ∧ ∀ k, v.ownBlock = some k → ¬ Y' k
section
variable {b r cf : Nat} {Y : Nat → Prop} {P L : List Th} {w w1 w2 : World} {v : Value}
theorem RiJ.next (h : RiJ b r cf Y P L w v w1) {Y1 : Nat → Prop} (hY : ∀ k, v.ownBlock = some k → ¬ Y1 k) (hs1 : Sub w.heap.size Y Y1) {L' : List Th} (hu : Upd (allOf Y1) w1 w2) {Y2 : Nat → Prop} (hs : Sub w1.heap.size Y1 Y2) (hm : MadeI b r cf Y2 L' w2) : RiJ b r cf Y P L' w v w2 := by
  obtain ⟨h1, h2, -⟩ := h
  refine ⟨h1.keep (fun k e => hu.block k (h1.lt k e).2 fun _ e' => hY k e e'), h2.then hu (fun x _ hx e => ?_), Y2, fun k e => ?_, hm, fun k e e' => ?_⟩
  · rcases hs1 x e with h | h
    · exact h
    · omega
  · rcases hs k e with h | h
    · exact hs1 k h
    · exact .inr (Nat.le_trans h2.size h)
  · rcases hs k e' with h | h
    · exact hY k e h
    · have := (h1.lt k e).2; omega
theorem RiJ.alloc (h : RiJ b r cf Y P L w v w1) (o : Obj) : RiJ b r cf Y P L w v (w1.alloc o) := by
  obtain ⟨h1, h2, Y1, h3, h4, h5⟩ := h
  exact ⟨h1.keep fun k e => Below.heap_alloc _ _ _ (by have := (h1.lt k e).2; omega), h2.alloc o, Y1, h3, h4.keep (by simp) (fun x e => Below.heap_alloc _ _ _ (by have := h4.1 x e; omega)), h5⟩
theorem RiJ.put (h : RiJ b r cf Y P L w v w1) {v' : Value} {P' : List Th} (ho : OwnI w.heap.size w2 v' P') (hg : w1.grownBy w2 v.ownBlock) (hv : v'.ownBlock = v.ownBlock ∨ v'.ownBlock = some w1.heap.size) : RiJ b r cf Y P' L w v' w2 := by
  obtain ⟨h1, h2, Y1, h3, h4, h5⟩ := h
  refine ⟨ho, ⟨hg.os.trans h2.os, hg.tape.trans h2.tape, hg.output.trans h2.output, Nat.le_trans h2.size hg.size, fun x o hx hn => ?_, fun x t n hx => ?_, fun x hx hn => ?_⟩, Y1, h3, h4.keep hg.size (fun x e => hg.block x (h4.1 x e) (fun e' => h5 x e'.symm e)), fun k e e' => ?_⟩
  · exact (World.cell?_of_block (a := ⟨x, o, none⟩) (hg.block x (by have := h2.size; omega) (fun e => by have := (h1.lt x e.symm).1; omega))).trans (h2.cell x o hx hn)
  · exact (h2.kind x t n hx).of_heap (hg.block x (by have := (h2.kind x t n hx).lt; omega) (fun e => by have := (h1.lt x e.symm).1; have := hx.lt; omega))
  · exact (hg.block x (by have := h2.size; omega) (fun e => by have := (h1.lt x e.symm).1; omega)).trans (h2.block x hx hn)
  · rcases hv with hv | hv
    · exact h5 k (hv ▸ e) e'
    · rw [hv] at e; cases e; exact absurd (h4.1 _ e') (Nat.lt_irrefl _)
end
theorem eqlI (b : Nat) (W : World) : (binOp .eql 56 (curI b) .nilIface).run Try.prog W = .ok (.bool false) W := by kernel_rfl
theorem method_nextI (b : Nat) (w : World) : (method 258 117 (.pointer (some ⟨b, 0, none⟩)) "Next").run Try.prog w = .ok (117, .pointer (some ⟨b, 0, none⟩)) w := by kernel_rfl
set_option maxRecDepth 100000 in
set_option maxHeartbeats 2000000 in
theorem restI_any {b r cf : Nat} {Y : Nat → Prop} {L : List Th} {w : World} (h : MadeI b r cf Y L w) (hL : L.length ≤ 1999) :
    Calls Try.prog 33 #[curI b] w fun e w' => ∃ v, e = .returned (.tuple #[v, .bool true]) ∧ OwnI w.heap.size w' v L ∧ Upd (allOf Y) w w' := by
  have q := eqlI b
  have hm := method_nextI b
  have H0 := Lib.hid (show RiJ b r cf Y [] L w (.slice none 0 0) w from ⟨World.ownsRow_nil _ _ _ _, Upd.refl _ _, Y, fun x e => .inl e, h, fun k e => by cases e⟩)
  clear h
  go_enter Try.func33, Try.ntmps33
  go_wp2_with fail
  go_loopw [4, 5] (fun v i wr => ∃ n : Nat, n ≤ L.length ∧ i = .int .i64 n ∧ Hid (RiJ b r cf Y (L.take n) (L.drop n) w v wr)) (fun v i _ => 2000 - (intOf i).toNat)
  case atStart => exact ⟨0, Nat.zero_le _, rfl, H0⟩
  case round =>
    obtain ⟨n, hn, rfl, HJ⟩ := hrel
    obtain ⟨Y1, hs1, hm1, hk1⟩ := HJ.out.2.2
    have HS1 := Lib.hid hs1
    have HK1 := Lib.hid hk1
    have HC := Lib.hid (nextI_any hm1)
    clear hm1 hs1 hk1
    have hn2 : (n : Int) < 2000 := by omega
    go_wp2_with fail
    refine HC.out.mono ?_
    rintro e w1 ⟨rfl, hu, Y2, hs2, hm2⟩
    have HJ1 := Lib.hid (HJ.out.next HK1.out HS1.out hu hs2 hm2)
    clear hu hs2 hm2 HC
    obtain ⟨D, hD⟩ : ∃ D, D = L.drop n := ⟨_, rfl⟩
    rw [← hD] at HJ1 ⊢
    cases D with
    | cons x r' =>
      have HE := Lib.hid (show n < L.length ∧ L.take n ++ [x] = L.take (n + 1) ∧ r' = L.drop (n + 1) by
        have hlt : n < L.length := by
          have : 0 < (L.drop n).length := by rw [← hD]; simp
          rw [List.length_drop] at this; omega
        have hg := List.drop_eq_getElem_cons hlt
        rw [← hD] at hg
        injection hg with g1 g2
        exact ⟨hlt, by rw [g1]; exact (List.take_succ_eq_append_getElem hlt).symm, g2⟩)
      clear hD
      unfold headI
      have HJ2 := Lib.hid (HJ1.out.alloc (.cells #[.int .i64 x.2] 3))
      have hx := cell_of_row _ w1.heap.size 0 _ _ (0, 0) (heap_alloc_new w1 (.cells #[.int .i64 x.2] 3))
      have HX := Lib.hid (show (w1.alloc (.cells #[.int .i64 x.2] 3)).cell? ((⟨w1.heap.size, 0, none⟩ : Addr).add 0) = some (.int .i64 x.2) by rw [addr_add]; exact hx)
      have HT := Lib.hid (show (L.take n).length ≤ 1000000 by rw [List.length_take]; omega)
      clear hx
      go_wp2_with (at_builtin; refine wpList_appI rfl (.tmp 31) (.tmp 33) rfl w.heap.size _ (L.take n) x ⟨w1.heap.size, 0, none⟩ rfl rfl HJ2.out.1 HX.out HT.out HJ2.out.2.1.size ?_; rintro v3 w3 ho hg hv; have HJ3 := Lib.hid (HJ2.out.put ho hg hv); clear ho hg hv)
      go_roundw
      case rel => exact ⟨n + 1, HE.out.1, by simp, Lib.hid (by rw [← HE.out.2.1, ← HE.out.2.2]; exact HJ3.out)⟩
      case measure => simp [intOf]; omega
    | nil =>
      have HE := Lib.hid (show L.take n = L from List.take_of_length_le (List.drop_eq_nil_iff.1 hD.symm))
      clear hD
      unfold headI
      obtain ⟨Y3, hs3, hm3, hk3⟩ := HJ1.out.2.2
      have HS3 := Lib.hid hs3
      have HK3 := Lib.hid hk3
      have HC2 := Lib.hid (nextI_any hm3)
      clear hs3 hm3 hk3
      go_wp2_with fail
      refine HC2.out.mono ?_
      rintro e w2 ⟨rfl, hu, Y4, hs4, hm4⟩
      have HJ4 := Lib.hid (HJ1.out.next HK3.out HS3.out hu hs4 hm4)
      clear hu hs4 hm4
      unfold headI
      go_wp2_with fail
      go_ret2
      have h5 := HJ4.out
      rw [HE.out] at h5
      exact ⟨_, rfl, h5.1, h5.2.1⟩
theorem eqlTurn (W : World) : (binOp .eql 58 turnFn .nilFunc).run Try.prog W = .ok (.bool false) W := by kernel_rfl
set_option maxRecDepth 100000 in
theorem cursorI_any (k : Nat) (lb : Array Value) (w : World) : Calls Try.prog 60 #[.func (.func k) #[] lb] w fun e w' => e = .returned (curI w.heap.size) ∧ w.alloc (.cells #[.func (.func k) #[] lb] 119) = w' := by
  go_enter Try.func60, Try.ntmps60
  go_wp2_with fail
  go_ret
  exact ⟨rfl, rfl⟩
set_option maxRecDepth 100000 in
set_option maxHeartbeats 1000000 in
theorem turn_any {b : Nat} {F : Nat → Prop} {L : List Th} {w : World} (h : MadeAt Tt b F L w) : Calls Try.prog 34 #[turnFn, curV b] w fun e w' =>
    ∃ b' r cf Y, e = .returned (curI b') ∧ MadeI b' r cf Y L w' ∧ (∀ k, Y k → F k ∨ w.heap.size ≤ k) ∧ Below w.heap.size w w' := by
  have hmf : ∀ (fn : Fn) (first cap : Array Value) (w : World), (Instr.makeFunc fn first cap).run Try.prog w = .ok (.func fn first cap) w := fun _ _ _ _ => rfl
  have q := eqlTurn
  have HF := Lib.hid (from_any b (w.alloc (.cells #[turnFn] 58)))
  go_enter Try.func34, Try.ntmps34
  go_wp2_with fail
  refine HF.out.mono ?_
  rintro e w1 ⟨rfl, hw1⟩
  have hs1 : w1.heap.size = w.heap.size + 2 := by rw [← hw1]; simp
  have hb1 : Below w.heap.size w w1 := by rw [← hw1]; exact ((Below.refl _ _).alloc (Nat.le_refl _) _).alloc (by simp) _
  have hcf : w1.heap[w.heap.size]? = some (.cells #[turnFn] 58 (0, 0)) := by rw [← hw1]; exact (Below.heap_alloc _ _ _ (by simp)).trans (heap_alloc_new w _)
  have HQ := Lib.hid (And.intro hs1 (And.intro hb1 hcf))
  clear hw1 hs1 hb1 hcf HF
  go_wp2_with fail
  refine (cursorI_any _ _ _).mono ?_
  rintro e w2 ⟨rfl, rfl⟩
  go_wp2_with fail
  go_ret
  obtain ⟨hs1, hb1, hcf⟩ := HQ.out
  have hm := made_new 83 (Fv.next b) ((h.keep hb1.size (fun k e => hb1.block k (h.inside k e))).tellsT)
  obtain ⟨w3, hw3⟩ : ∃ w3, w3 = w1.alloc (.cells #[nextV b] 83) := ⟨_, rfl⟩
  rw [← hw3] at hm
  have hs3 : w3.heap.size = w1.heap.size + 1 := by rw [hw3]; simp
  have hb3 : Below w.heap.size w w3 := by rw [hw3]; exact hb1.alloc hb1.size _
  have hcf3 : w3.heap[w.heap.size]? = some (.cells #[turnFn] 58 (0, 0)) := by rw [hw3]; exact (Below.heap_alloc _ _ _ (by omega)).trans hcf
  have hT : TuJ w1.heap.size w.heap.size (fun k => k = w.heap.size ∨ k = w1.heap.size ∨ F k) L w3 := by
    refine ⟨?_, .inl rfl, cell_of_row _ _ 0 _ _ (0, 0) hcf3, _, hm, ?_⟩
    · rintro k (rfl | rfl | e)
      · omega
      · omega
      · have := h.inside k e; omega
    · rintro k (rfl | e)
      · exact ⟨.inr (.inl rfl), by omega⟩
      · have := h.inside k e
        exact ⟨.inr (.inr e), by omega⟩
  refine ⟨w3.heap.size, w1.heap.size, w.heap.size, fun k => k = w3.heap.size ∨ k = w.heap.size ∨ k = w1.heap.size ∨ F k, by rw [hs3]; rfl, ?_, ?_, ?_⟩
  · rw [← hw3]
    have hb4 := below_new' w3 (.cells #[tuV w1.heap.size w.heap.size] 119)
    refine ⟨?_, .inl rfl, ⟨_, heap_alloc_new w3 _, rfl⟩, .inl ⟨cell_of_row _ _ 0 _ _ (0, 0) (heap_alloc_new w3 _), _, hT.keep hb4.size (fun k e => hb4.block k (hT.1 k e)), fun k e => ⟨.inr e, by have := hT.1 k e; omega⟩⟩⟩
    rintro k (rfl | e)
    · simp
    · have := hT.1 k e; simp; omega
  · rintro k (rfl | rfl | rfl | e)
    · exact .inr hb3.size
    · exact .inr (Nat.le_refl _)
    · exact .inr hb1.size
    · exact .inl e
  · rw [← hw3]; exact hb3.alloc hb3.size _
end Go.Proofs.Ytemfglpjokmioaa
