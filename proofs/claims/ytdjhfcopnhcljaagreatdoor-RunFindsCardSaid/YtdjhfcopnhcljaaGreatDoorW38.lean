/-
  Keys of sectors in general; the loose sectors of file 0, as data.
  Disk.loosen at a file of which nothing is loose: its sectors, from one to another, are kept.
  Disk.loosen at a file of which nothing is loose: the walk.
-/
import Derived.Test.YtdjhfcopnhcljaaGreatDoorW37
namespace Go.Proofs.YtdjhfcopnhcljaaGreatDoor
section
open Go Go.RowKit Go.Maps Go.WideMaps

theorem keyTypeSp : Tryz.prog.keyType 225 = true := by kernel_rfl
theorem cellsSp : Tryz.prog.cellsOf 225 = 2 := by kernel_rfl
theorem cellsIn : Tryz.prog.cellsOf 3 = 1 := by kernel_rfl
theorem up_of {k n : Nat} (h : k < n) : ∃ m, n = m + 1 := ⟨n - 1, by omega⟩
theorem typesUp : ∃ m, Tryz.prog.types.size = m + 1 := up_of spotRow
set_option maxRecDepth 100000 in
theorem keyOf_spot {f i : Int} (hf : (Lit.int .i64 f).wf = true) (hi : (Lit.int .i64 i).wf = true) : keyOf Tryz.prog 225 (.agg #[.int .i64 f, .int .i64 i]) = some (spotK f i) := by
  obtain ⟨m, hm⟩ := typesUp
  unfold keyOf
  simp only [Tryz.underlying225]
  rw [if_pos (by simp [keyTypeSp, Value.formed, Tryz.underlying225, cellsSp]), hm]
  unfold Program.keyLits
  simp only [Tryz.underlying225, Value.cells]
  rw [if_pos (by simp [cellsSp])]
  simp [cellsIn, Program.keyLits, Tryz.underlying3, hf, hi, spotK]
theorem wf_nat {i : Nat} (h : i ≤ 1000000) : (Lit.int .i64 (i : Int)).wf = true := by
  simp only [Lit.wf, Bool.and_eq_true, decide_eq_true_eq]
  have e1 : IntKind.i64.min = -9223372036854775808 := by rfl
  have e2 : IntKind.i64.max = 9223372036854775807 := by rfl
  rw [e1, e2]
  omega
theorem keyOf_sp {i : Nat} (h : i ≤ 1000000) : keyOf Tryz.prog 225 (spotV i) = some (spotK 0 i) := keyOf_spot (by decide) (wf_nat h)
theorem spot_inj {i j : Nat} (hi : i ≤ 1000000) (hj : j ≤ 1000000) (h : spotK 0 i = spotK 0 j) : i = j := by
  have := keySp.inj (keyOf_sp hi) (h ▸ keyOf_sp hj)
  unfold spotV at this
  injection this with this
  have e : (#[Value.int .i64 0, Value.int .i64 (i : Int)] : Array Value)[1]? = (#[Value.int .i64 0, Value.int .i64 (j : Int)] : Array Value)[1]? := by rw [this]
  simp at e
  omega
theorem spot_eq {i : Nat} {z : Lit} (h : (spotK 0 i).sameKey z = true) : z = spotK 0 i := spot_same h
/-- The loose sectors of file 0: which there are, and what is fixed of them. -/
structure Olds (w : World) (n1 : Nat) (oo : DataW Value) (f : Nat → Option (List UInt8)) : Prop where
  is : Maps.IsMap oo
  no : ∀ i, i ≤ 1000000 → f i = none → Maps.has oo (spotK 0 i) = false ∧ oo.atKey (spotK 0 i) (.held (.slice none 0 0)) = .held (.slice none 0 0)
  yes : ∀ i l, f i = some l → i ≤ 1000000 ∧ ∃ v, Maps.has oo (spotK 0 i) = true ∧ oo.atKey (spotK 0 i) (.held (.slice none 0 0)) = .held v ∧ OwnF n1 w v l
  only : ∀ kl, Maps.has oo kl = true → ∃ i : Nat, (f i).isSome = true ∧ kl = spotK 0 i
theorem Olds.empty (w : World) (n1 : Nat) : Olds w n1 (.map []) (fun _ => none) :=
  ⟨isMap_empty, fun _ _ _ => ⟨rfl, rfl⟩, fun _ _ h => (by cases h), fun _ h => (by cases h)⟩
theorem Olds.grow {S : Nat → Prop} {w w' : World} {n1 : Nat} {oo : DataW Value} {f : Nat → Option (List UInt8)} (h : Olds w n1 oo f) (hg : Grow S w w') (hS : ∀ k, n1 ≤ k → ¬ S k) : Olds w' n1 oo f :=
  ⟨h.is, h.no, fun i l hl => by
    obtain ⟨hi, v, h1, h2, h3⟩ := h.yes i l hl
    exact ⟨hi, v, h1, h2, h3.grow hg (fun k hk => hS k (World.ownsRow.lt h3 k hk).1)⟩, h.only⟩
theorem Olds.same {w w' : World} {n1 : Nat} {oo : DataW Value} {f : Nat → Option (List UInt8)} (h : Olds w n1 oo f) (hg : Grow (fun _ => False) w w') : Olds w' n1 oo f := h.grow hg (fun _ _ e => e)
theorem spot_lit (i : Nat) : WideAt.IsKeyLit (spotK 0 i) := by unfold spotK; trivial
theorem Olds.key {w : World} {n1 : Nat} {oo : DataW Value} {f : Nat → Option (List UInt8)} (h : Olds w n1 oo f) {key : Value} {kl : Lit} (hk : keyOf Tryz.prog 225 key = some kl) (hh : Maps.has oo kl = true) : ∃ (i : Nat) (l : List UInt8), i ≤ 1000000 ∧ f i = some l ∧ key = spotV i := by
  obtain ⟨i, hi, rfl⟩ := h.only kl hh
  obtain ⟨l, hl⟩ := Option.isSome_iff_exists.1 hi
  have hb := (h.yes i l hl).1
  exact ⟨i, l, hb, hl, keySp.inj hk (keyOf_sp hb)⟩
/-- One sector more is loose. -/
theorem Olds.put {w : World} {n1 : Nat} {oo : DataW Value} {f : Nat → Option (List UInt8)} (h : Olds w n1 oo f) {i : Nat} (hi : i ≤ 1000000) {v : Value} {l : List UInt8} (hv : OwnF n1 w v l) : Olds w n1 (oo.put (spotK 0 i) (.held v)) (fun j => if j = i then some l else f j) := by
  refine ⟨h.is.put _ _, fun j hj hf => ?_, fun j m hf => ?_, fun kl hh => ?_⟩
  · by_cases e : j = i
    · rw [if_pos e] at hf; cases hf
    · rw [if_neg e] at hf
      have hne : spotK 0 j ≠ spotK 0 i := fun e' => e (spot_inj hj hi e')
      rw [has_put_other hne, atKey_put_other hne]
      exact h.no j hj hf
  · by_cases e : j = i
    · rw [if_pos e] at hf
      injection hf with hf
      subst e hf
      exact ⟨hi, v, has_put_same h.is (spot_lit _) _, atKey_put_same h.is (spot_lit _) _ _, hv⟩
    · rw [if_neg e] at hf
      obtain ⟨hj, u, h1, h2, h3⟩ := h.yes j m hf
      have hne : spotK 0 j ≠ spotK 0 i := fun e' => e (spot_inj hj hi e')
      exact ⟨hj, u, by rw [has_put_other hne]; exact h1, by rw [atKey_put_other hne]; exact h2, h3⟩
  · by_cases e : kl = spotK 0 i
    · exact ⟨i, by simp, e⟩
    · rw [has_put_other e] at hh
      obtain ⟨j, hj, rfl⟩ := h.only kl hh
      refine ⟨j, ?_, rfl⟩
      by_cases e' : j = i
      · rw [if_pos e']; rfl
      · rw [if_neg e']; exact hj
/-- A sector is loose no more. -/
theorem Olds.del {w : World} {n1 : Nat} {oo : DataW Value} {f : Nat → Option (List UInt8)} (h : Olds w n1 oo f) {i : Nat} (hi : i ≤ 1000000) : Olds w n1 (oo.del (spotK 0 i)) (fun j => if j = i then none else f j) := by
  refine ⟨h.is.del _, fun j hj hf => ?_, fun j m hf => ?_, fun kl hh => ?_⟩
  · by_cases e : j = i
    · subst e
      exact ⟨has_del_same, atKey_del_same _⟩
    · rw [if_neg e] at hf
      have hne : spotK 0 j ≠ spotK 0 i := fun e' => e (spot_inj hj hi e')
      rw [has_del_other hne, atKey_del_other hne]
      exact h.no j hj hf
  · by_cases e : j = i
    · rw [if_pos e] at hf; cases hf
    · rw [if_neg e] at hf
      obtain ⟨hj, u, h1, h2, h3⟩ := h.yes j m hf
      have hne : spotK 0 j ≠ spotK 0 i := fun e' => e (spot_inj hj hi e')
      exact ⟨hj, u, by rw [has_del_other hne]; exact h1, by rw [atKey_del_other hne]; exact h2, h3⟩
  · by_cases e : kl = spotK 0 i
    · subst e
      rw [has_del_same] at hh
      cases hh
    · rw [has_del_other e] at hh
      obtain ⟨j, hj, rfl⟩ := h.only kl hh
      refine ⟨j, ?_, rfl⟩
      by_cases e' : j = i
      · exact absurd (by rw [e']) e
      · rw [if_neg e']; exact hj
end
section
open Go Go.RowKit Go.Maps Go.WideMaps

/-- So many sectors from i0 on are kept. -/
def keptF (L : List UInt8) (i0 j : Nat) : Nat → Option (List UInt8) := fun i => if i0 ≤ i ∧ i < i0 + j then some (sec L i) else none
theorem keptF_zero (L : List UInt8) (i0 : Nat) : keptF L i0 0 = fun _ => none := by
  funext i
  unfold keptF
  rw [if_neg (by omega)]
theorem keptF_succ (L : List UInt8) (i0 j : Nat) : keptF L i0 (j + 1) = fun i => if i = i0 + j then some (sec L (i0 + j)) else keptF L i0 j i := by
  funext i
  unfold keptF
  by_cases h : i = i0 + j
  · rw [if_pos (by omega), if_pos h, h]
  · rw [if_neg h]
    by_cases h2 : i0 ≤ i ∧ i < i0 + j
    · rw [if_pos h2, if_pos (by omega)]
    · rw [if_neg h2, if_neg (by omega)]
def ints (i0 j : Nat) : List Value := (List.range' i0 j).map fun k : Nat => Value.int .i64 ((k : Nat) : Int)
theorem ints_succ (i0 j : Nat) : ints i0 (j + 1) = ints i0 j ++ [.int .i64 ((i0 + j : Nat) : Int)] := by
  unfold ints
  rw [List.range'_concat]
  simp
/-- What a round of loosen begins with. -/
structure LoG (w : World) (g O no i0 j : Nat) (fv : Value) (L : List UInt8) (fixed : Int) (oo : DataW Value) (wrn : Value) (wr : World) : Prop where
  olds : MapAt wr Tryz.prog 225 O (no + j) oo
  rel : Olds wr w.heap.size oo (keptF L i0 j)
  file : FileAt wr g fv fixed wrn
  own : wr.ownsRow w.heap.size 3 1 wrn j (ints i0 j)
  grow : Grow (fun b => b = O ∨ b = g) w wr
theorem LoG.same {w wr w1 : World} {g O no i0 j : Nat} {fv : Value} {L : List UInt8} {fixed : Int} {oo : DataW Value} {wrn : Value} (h : LoG w g O no i0 j fv L fixed oo wrn wr) (hg : Grow (fun _ => False) wr w1) : LoG w g O no i0 j fv L fixed oo wrn w1 :=
  ⟨h.olds.grow hg (fun e => e), h.rel.same hg, h.file.grow hg (fun e => e), own_grow h.own hg (fun _ _ e => e), h.grow.trans (hg.mono (fun _ _ e => e.elim))⟩
/-- Behind the store into the map. -/
structure LoGm (w : World) (g O no i0 j : Nat) (fv : Value) (L : List UInt8) (fixed : Int) (oo : DataW Value) (wrn : Value) (w3 : World) : Prop where
  olds : MapAt w3 Tryz.prog 225 O (no + j + 1) oo
  rel : Olds w3 w.heap.size oo (keptF L i0 (j + 1))
  file : FileAt w3 g fv fixed wrn
  own : w3.ownsRow w.heap.size 3 1 wrn j (ints i0 j)
  grow : Grow (fun b => b = O ∨ b = g) w w3
theorem log_upd {w w1 w2 : World} {g O no i0 j : Nat} {fv : Value} {L : List UInt8} {fixed : Int} {oo : DataW Value} {wrn v : Value} (h : LoG w g O no i0 j fv L fixed oo wrn w1) (hv : OwnF w1.drew.heap.size w2 v (sec L (i0 + j))) (hg : Grow (fun _ => False) w1.drew w2) (hn : no + j < maxLen) (hi : i0 + j ≤ 1000000) (hgO : g ≠ O) (hO : O < w.heap.size) :
    ∃ w3, (Instr.mapUpdate 127 (.map (some O)) (.agg #[.int .i64 0, .int .i64 ((i0 + j : Nat) : Int)]) v).run Tryz.prog w2 = .ok () w3 ∧ LoGm w g O no i0 j fv L fixed (oo.put (spotK 0 (i0 + j : Nat)) (.held v)) wrn w3 ∧ w2.grownBy w3 (some O) := by
  have g12 : Grow (fun _ => False) w1 w2 := (Grow.refl _ w1).drew.trans hg
  have h2 := h.same g12
  obtain ⟨w3, hrun, hm3, hg3⟩ := run_update_any w2 keySp Tryz.underlying127 h2.olds hn (keyOf_sp hi) (val := v)
  have g23 : Grow (fun b => b = O) w2 w3 := Grow.of_grown hg3 (fun k e _ => (Option.some.inj e).symm)
  have hw1 : w.heap.size ≤ w1.drew.heap.size := h.grow.size
  refine ⟨w3, hrun, ⟨hm3, ?_, h2.file.grow g23 hgO, own_grow h2.own g23 (fun k hk e => ?_), h2.grow.trans (g23.mono (fun _ _ e => .inl e))⟩, hg3⟩
  · rw [keptF_succ]
    refine Olds.put (h2.rel.grow g23 (fun k hk e => by omega)) hi ?_
    exact ((hv.grow g23 (fun k hk e => by have := (World.ownsRow.lt hv k hk).1; omega))).base hw1
  · have := (h2.own.lt k hk).1
    omega
theorem log_end {w w3 w5 : World} {g O no i0 j : Nat} {fv : Value} {L : List UInt8} {fixed : Int} {oo : DataW Value} {wrn v5 : Value} {o : Obj} (h : LoGm w g O no i0 j fv L fixed oo wrn w3) (how : w5.ownsRow w.heap.size 3 1 v5 (j + 1) (ints i0 j ++ [.int .i64 ((i0 + j : Nat) : Int)])) (hg : (w3.alloc o).grownBy w5 wrn.ownBlock) (hl : g < w.heap.size) (hgO : g ≠ O) (hOw : O < w.heap.size)
    (hne : ∀ i l v b, keptF L i0 (j + 1) i = some l → oo.atKey (spotK 0 i) (.held (.slice none 0 0)) = .held v → v.ownBlock = some b → wrn.ownBlock ≠ some b) :
    FileAt w5 g fv fixed wrn ∧ LoG w g O no i0 (j + 1) fv L fixed oo v5 (w5.setCell ⟨g, 2, none⟩ v5) := by
  have hw : ∀ k, wrn.ownBlock = some k → w.heap.size ≤ k := fun k hk => (h.own.lt k hk).1
  have g1 : Grow (fun b => wrn.ownBlock = some b) w3 w5 := ((Grow.refl _ w3).alloc o).trans (Grow.of_grown hg (fun k e _ => e))
  have hf : FileAt w5 g fv fixed wrn := h.file.grow g1 (fun e => by have := hw _ e; omega)
  refine ⟨hf, ?_, ?_, ?_, ?_, ?_⟩
  · exact (h.olds.grow g1 (fun e => by have := hw _ e; omega)).setCell (a := ⟨g, 2, none⟩) (fun e => hgO e.symm) _
  · refine ⟨h.rel.is, h.rel.no, fun i l hil => ?_, h.rel.only⟩
    obtain ⟨hi, v, h1, h2, h3⟩ := h.rel.yes i l hil
    refine ⟨hi, v, h1, h2, ?_⟩
    have h4 := h3.grow g1 (fun k hk e => hne i l v k hil h2 hk e)
    exact World.ownsRow.kept h4 (grown_setCell w5 ⟨g, 2, none⟩ _) (by
      cases e : v.ownBlock with
      | none => exact .inl rfl
      | some b => right; have := (World.ownsRow.lt h3 b e).1; simp; omega)
  · show (w5.setCell ⟨g, 2, none⟩ v5).heap[g]? = _
    rw [Go.heap_setCell_same _ g _ _ _ _ hf]
    rfl
  · rw [ints_succ]
    exact how.kept (grown_setCell w5 ⟨g, 2, none⟩ _) (by
      cases e : v5.ownBlock with
      | none => exact .inl rfl
      | some k => right; have := (how.lt k e).1; simp; omega)
  · have g2 : Grow (fun b => b = O ∨ b = g) w w5 := h.grow.thenNew g1 (fun k hk e => by have := hw k e; omega)
    exact g2.setCell _ _ (fun _ => .inr rfl)
theorem log_ne {w w3 : World} {g O no i0 j : Nat} {fv : Value} {L : List UInt8} {fixed : Int} {oo : DataW Value} {wrn : Value} (h : LoGm w g O no i0 j fv L fixed oo wrn w3) : ∀ i l v b, keptF L i0 (j + 1) i = some l → oo.atKey (spotK 0 i) (.held (.slice none 0 0)) = .held v → v.ownBlock = some b → wrn.ownBlock ≠ some b := by
  intro i l v b hil hat hb e
  obtain ⟨-, v', -, h2, h3⟩ := h.rel.yes i l hil
  rw [hat] at h2
  injection h2 with h2
  subst h2
  obtain ⟨-, c1, hc1⟩ := own_blockD h3 b hb
  obtain ⟨-, c2, hc2⟩ := own_blockD h.own b e
  rw [hc1] at hc2
  injection hc2 with hc2
  injection hc2 with _ hc2 _
  exact absurd hc2 (by decide)
end
section
open Go Go.RowKit Go.Maps Go.WideMaps

theorem run_look_ok_any {P : Program} (w : World) {t k e : TypeId} (K : Keyed P k) (ht : P.underlying t = some (.map k e)) (z v : Value) (hz : (zeroValue e).run P w = .ok z w) {b n : Nat} {D : DataW Value} (hown : MapAt w P k b n D) {key : Value} {kl : Lit} (hkey : keyOf P k key = some kl) (hat : D.atKey kl (.held z) = .held v) {c : Bool} (hc : Maps.has D kl = c) :
    (Instr.lookup t (.map (some b)) key true).run P w = .ok (.tuple #[v, .bool c]) w := by
  obtain ⟨u, ps, hrun, hu⟩ := World.ownsMap.look_ok hown K ht hz (zd := .held z) (zp := []) rfl hkey
  have := heldE_inv hu
  rw [hat] at this
  injection this with this _
  injection this with this
  subst this hc
  exact hrun
set_option maxRecDepth 100000 in
set_option maxHeartbeats 4000000 in
theorem loosen_clean {n0 nb nF : Nat} {w : World} {d F O D X g : Nat} {room next fixed : Int} {nf no nd nx m : Nat} {ff oo dd xx : DataW Value} {chg fv : Value} {xs : List Value} {L : List UInt8}
    (h : DkS n0 w d F O D X room next nf no nd nx m ff oo dd xx chg xs) (hO : Olds w nb oo (fun _ => none)) (hg : FileAt w g fv fixed (.slice none 0 0)) (hf : OwnF nF w fv L) (hL : L.length ≤ 1000000) (ap : g ≠ d ∧ g ≠ O) (hfd : ∀ b, fv.ownBlock = some b → b ≠ O ∧ b ≠ g) (hno : no ≤ 1000000) (a z : Nat) (haz : a < z) (hz : z ≤ 1000000) :
    Calls Tryz.prog 125 #[.pointer (some ⟨d, 0, none⟩), .int .i64 0, .pointer (some ⟨g, 0, none⟩), .int .i64 (a : Int), .int .i64 (z : Int)] w fun e w' => e = .returned (.tuple #[]) ∧ ∃ oo' wrn, LoG w g O no (a / 64) ((z + 63) / 64 - a / 64) fv L fixed oo' wrn w' := by
  have HS := Lib.hid h
  have HA := Lib.hid ap
  have HNo := Lib.hid hno
  have HF := Lib.hid hf
  have HLl := Lib.hid hL
  have HFd := Lib.hid hfd
  have HGl := Lib.hid (show g < w.heap.size from (Array.getElem?_eq_some_iff.1 hg).1)
  have HSt := Lib.hid (show LoG w g O no (a / 64) 0 fv L fixed oo (.slice none 0 0) w from
    ⟨h.olds, by rw [keptF_zero]; exact ⟨hO.is, hO.no, fun _ _ e => (by cases e), hO.only⟩, hg, World.ownsRow_nil _ _ _ _, Grow.refl _ _⟩)
  have HSe := Lib.hid (fun W : World => sectors_any W z (by omega))
  obtain ⟨i0, HI⟩ : ∃ i0, Hid (i0 = a / 64) := ⟨_, Lib.hid rfl⟩
  obtain ⟨i1, HI1⟩ : ∃ i1, Hid (i1 = (z + 63) / 64) := ⟨_, Lib.hid rfl⟩
  rw [← HI.out] at HSt ⊢
  rw [← HI1.out] at HSe ⊢
  have HLe := Lib.hid (show i0 < i1 ∧ i1 ≤ 16000 from by rw [HI.out, HI1.out]; omega)
  have ne1 : ¬ (a : Int) = (z : Int) := by omega
  have ne2 : (0 : Int) ≤ (a : Int) := by omega
  have ne3 : (a : Int) ≤ 1000000 := by omega
  have HQ := Lib.hid (show (a : Int) / 64 = (i0 : Int) by rw [HI.out]; omega)
  clear h hg ap hno hO hf hL hfd haz hz HI HI1
  go_enter Tryz.func125, Tryz.ntmps125
  go_wp2_with fail
  rw [show ((a : Int) == (z : Int)) = false from by simpa using ne1]
  clear ne1
  go_loopw [10] (fun i wr => ∃ (j : Nat) (oo' : DataW Value) (wrn : Value), i0 + j ≤ i1 ∧ i = .int .i64 ((i0 + j : Nat) : Int) ∧ Hid (LoG w g O no i0 j fv L fixed oo' wrn wr)) (fun i _ => i1 - (intOf i).toNat)
  case atStart => exact ⟨0, _, _, by have := HLe.out; omega, by rw [HQ.out]; rfl, HSt⟩
  case round =>
    obtain ⟨j, oj, wrn, hk, rfl, hJ⟩ := hrel
    obtain ⟨k, hke⟩ : ∃ k, k = i0 + j := ⟨_, rfl⟩
    have HKe := Lib.hid hke
    rw [← hke] at hk ⊢
    clear hke
    have h0 : (0 : Int) ≤ (k : Int) := by omega
    have hkb : (k : Int) ≤ 16000 := by have := HLe.out; omega
    by_cases hlt : k < i1
    case neg =>
      have hle : (i1 : Int) ≤ (k : Int) := by omega
      go_wp2_with fail
      refine (HSe.out wr).mono ?_
      rintro e w1 ⟨rfl, rfl⟩
      go_wp2_with fail
      have e : i1 - i0 = j := by have := HKe.out; omega
      exact bodyPost_end (results_none rfl _ _ _) rfl ⟨rfl, _, _, by rw [e]; exact hJ.out⟩
    have hlt' : (k : Int) < (i1 : Int) := by omega
    have HKb := Lib.hid (show k ≤ 16000 by omega)
    have HOs := Lib.hid (show O < wr.heap.size from hJ.out.olds.lt)
    have HOn := Lib.hid (HS.out.on.grow hJ.out.grow (by rintro (e | e); exact HS.out.apart.2.1 e; exact HA.out.1 e.symm))
    have hlr : d < wr.heap.size := HOn.out.lt
    have hgr : g < wr.heap.size := (Array.getElem?_eq_some_iff.1 hJ.out.file).1
    obtain ⟨-, -, -, -, c4, -, -, -, -, -⟩ := HOn.out.cells
    have HJ1 := Lib.hid (hJ.out.same ((Grow.refl _ wr).alloc (.cells #[.int .i64 0, .int .i64 (k : Int)] 225)).drew)
    have hno' := hJ.out.rel.no k (by omega) (by unfold keptF; rw [if_neg (by have := HKe.out; omega)])
    have hrun := run_look_ok_any (P := Tryz.prog) (wr.alloc (.cells #[.int .i64 0, .int .i64 (k : Int)] 225)).drew (t := 127) keySp Tryz.underlying127 (.slice none 0 0) (.slice none 0 0) (zeroB _) HJ1.out.olds (keyOf_sp (i := k) (by omega)) hno'.2 hno'.1
    unfold spotV at hrun
    have e4 : (wr.alloc (.cells #[.int .i64 0, .int .i64 (k : Int)] 225)).cell? ⟨d, 4, none⟩ = some (.map (some O)) := (World.cell?_alloc_lt wr _ _ hlr).trans c4
    have s0 : (wr.alloc (.cells #[.int .i64 0, .int .i64 (k : Int)] 225)).cell? ⟨wr.heap.size, 0, none⟩ = some (.int .i64 0) := (World.cell?_alloc_new wr _ _ 0).trans rfl
    have s1 : (wr.alloc (.cells #[.int .i64 0, .int .i64 (k : Int)] 225)).cell? ⟨wr.heap.size, 1, none⟩ = some (.int .i64 k) := (World.cell?_alloc_new wr _ _ 1).trans rfl
    clear hno'
    go_wp2_with fail
    refine (HSe.out wr).mono ?_
    rintro e w1 ⟨rfl, rfl⟩
    go_wp2_with fail
    go_region_held3 (fun W => W.cell? ⟨d, 4, none⟩ = some (.map (some O)) ∧ W.cell? ⟨wr.heap.size, 0, none⟩ = some (.int .i64 0) ∧ W.cell? ⟨wr.heap.size, 1, none⟩ = some (.int .i64 k)) (exact ⟨e4, s0, s1⟩) (fail)
    have HOn1 := Lib.hid (HOn.out.alloc (.cells #[.int .i64 0, .int .i64 (k : Int)] 225)).drew
    have E4 := Lib.hid (show (wr.alloc (.cells #[.int .i64 0, .int .i64 (k : Int)] 225)).drew.cell? ⟨d, 4, none⟩ = some (.map (some O)) ∧ (wr.alloc (.cells #[.int .i64 0, .int .i64 (k : Int)] 225)).drew.cell? ⟨wr.heap.size, 0, none⟩ = some (.int .i64 0) ∧ (wr.alloc (.cells #[.int .i64 0, .int .i64 (k : Int)] 225)).drew.cell? ⟨wr.heap.size, 1, none⟩ = some (.int .i64 k) from ⟨e4, s0, s1⟩)
    have hsz : wr.heap.size < (wr.alloc (.cells #[.int .i64 0, .int .i64 (k : Int)] 225)).drew.heap.size := by simp
    clear hrun e4 s0 s1 c4 hJ
    generalize (wr.alloc (.cells #[.int .i64 0, .int .i64 (k : Int)] 225)).drew = W1 at *
    generalize wr.heap.size = at_ at *
    obtain ⟨b0, -, -⟩ := HJ1.out.file.cells
    obtain ⟨e4, s0, s1⟩ := E4.out
    have HOw := Lib.hid (show O < w.heap.size from HS.out.olds.lt)
    have HOa := Lib.hid (show O < at_ ∧ at_ < W1.heap.size ∧ g < W1.heap.size ∧ d < W1.heap.size from ⟨HOs.out, hsz, by omega, by omega⟩)
    have HFw := Lib.hid (show OwnF nF W1.drew fv L from HF.out.grow (HJ1.out.grow.drew) (fun b hb => by rintro (e | e); exact (HFd.out b hb).1 e; exact (HFd.out b hb).2 e))
    obtain ⟨cv, hcut, hread⟩ := cut_any k HFw.out HLl.out (by omega)
    have HCut := Lib.hid hcut
    have HCl := Lib.hid (cloneB_any W1.drew cv (sec L k) hread (by have := sec_len L k; omega))
    have HUp := Lib.hid (fun (w2 : World) (v2 : Value) (hv : OwnF W1.drew.heap.size w2 v2 (sec L k)) (hg : Grow (fun _ => False) W1.drew w2) =>
      (show ∃ w3, (Instr.mapUpdate 127 (.map (some O)) (.agg #[.int .i64 0, .int .i64 (k : Int)]) v2).run Tryz.prog w2 = .ok () w3 ∧ LoGm w g O no i0 j fv L fixed (oj.put (spotK 0 (k : Nat)) (.held v2)) wrn w3 ∧ w2.grownBy w3 (some O) from by
        have e := HKe.out
        subst e
        exact log_upd HJ1.out hv hg (by have := HNo.out; unfold maxLen; omega) (by omega) HA.out.2 HOw.out))
    have hdO : some d ≠ some O := by have := HS.out.apart.2.1; simpa using this
    have hgO : some g ≠ some O := by have := HA.out.2; simpa using this
    have haO : some at_ ≠ some O := by have := HOa.out.1; simp; omega
    clear hread hcut hlr hgr hsz
    go_wp2_with fail
    go_region_held3 (fun W => W.cell? ⟨d, 4, none⟩ = some (.map (some O)) ∧ W.cell? ⟨g, 0, none⟩ = some fv ∧ W.cell? ⟨at_, 0, none⟩ = some (.int .i64 0) ∧ W.cell? ⟨at_, 1, none⟩ = some (.int .i64 k)) (first | exact ⟨e4, b0, s0, s1⟩ | exact S2.out | exact S3.out) ((first
      | (go_at_call 158; refine HCut.out.mono ?_; rintro e w' ⟨rfl, rfl⟩)
      | (go_at_call 131; refine HCl.out.mono ?_; rintro e w2 ⟨v2, rfl, hv2, hg2⟩; obtain ⟨w3, hrun3, hM3, hgr3⟩ := HUp.out w2 v2 hv2 hg2; have S2 := Lib.hid (And.intro ((World.cell?_of_block (a := ⟨d, 4, none⟩) (hg2.block d HOa.out.2.2.2 (fun e => e))).trans e4) (And.intro ((World.cell?_of_block (a := ⟨g, 0, none⟩) (hg2.block g HOa.out.2.2.1 (fun e => e))).trans b0) (And.intro ((World.cell?_of_block (a := ⟨at_, 0, none⟩) (hg2.block at_ HOa.out.2.1 (fun e => e))).trans s0) ((World.cell?_of_block (a := ⟨at_, 1, none⟩) (hg2.block at_ HOa.out.2.1 (fun e => e))).trans s1)))); have S3 := Lib.hid (And.intro (hgr3.cell S2.out.1 hdO) (And.intro (hgr3.cell S2.out.2.1 hgO) (And.intro (hgr3.cell S2.out.2.2.1 haO) (hgr3.cell S2.out.2.2.2 haO)))); have HM3 := Lib.hid hM3; clear hM3 hgr3 hv2 hg2)))
    have hl3 : g < w3.heap.size := (Array.getElem?_eq_some_iff.1 HM3.out.file).1
    obtain ⟨-, -, b2⟩ := HM3.out.file.cells
    obtain ⟨ii, hi, hz0, hz1, hz2⟩ := info_parts infoInt
    have HKj := Lib.hid (show j + 1 ≤ 40000 from by have := HKe.out; omega)
    have o1 : j + 1 ≤ maxLen := by have := HKj.out; unfold maxLen; omega
    have o2 : (j + 1) * 8 ≤ 140737488355328 := by have := HKj.out; omega
    have o3 : w.heap.size ≤ (w3.alloc (.cells #[.int .i64 (k : Int)] 3)).heap.size := by have := HM3.out.grow.size; simp; omega
    clear hrun3 b0 e4 s0 s1 E4 HJ1 S2 S3 HCut HCl HUp HOn1 HFw
    go_wp2_with (at_builtin; refine wpList_append_lies _ rfl (.tmp 54) (.tmp 56) 75 rfl w.heap.size 3 ii (.int .i64 0) 1 8 Tryz.underlying75 hi hz0 hz1 hz2 rfl (by decide) _ _ _ rfl (HM3.out.own.alloc _) ⟨w3.heap.size, 0, none⟩ 1 1 [.int .i64 (k : Int)] rfl rfl (lit_cells w3 _ _) (one_cells rfl) (by decide) o1 o2 o3 (w3.heap.size + 1) (by simp) ?_; intro g5 cap5 w5 how5 hgr5 hloc5 hlt5; clear hloc5 hlt5; obtain ⟨hF5, hEnd5⟩ := log_end HM3.out (by rw [← HKe.out]; exact how5) hgr5 HGl.out HA.out.2 HOw.out (log_ne HM3.out); have HEnd := Lib.hid hEnd5; obtain ⟨-, -, b25⟩ := hF5.cells; have f25 := frozen_of_row w5 g 2 _ _ hF5; clear how5 hgr5 hF5 hEnd5)
    go_roundw
    case rel => exact ⟨j + 1, _, _, by have := HKe.out; omega, by have := HKe.out; subst this; go_num, HEnd⟩
    case measure => have := HKe.out; simp [intOf]; omega
end
end Go.Proofs.YtdjhfcopnhcljaaGreatDoor
