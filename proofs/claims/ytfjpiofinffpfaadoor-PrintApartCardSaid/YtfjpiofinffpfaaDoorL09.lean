/-
  What print's example writes.
  What print's example answers.
  What print's example answers: it holds.
-/
import Derived.Test.YtfjpiofinffpfaaDoorL06
import Derived.RegionTactic
import Derived.BigRegion
namespace Go.Proofs.YtfjpiofinffpfaaDoor
section
open Go Go.RowKit Go.Shelf

theorem kind_word (c : UInt8) (r : List UInt8) (k : Int) (h : cls c = 1 ∧ k = 1 ∨ cls c = 2 ∧ k = 2) (hs : solid c) (hr : r.takeWhile inB = r) (hl : r.length ≤ 63) : kindL (c :: r) = k := by
  have hsh : shapeL c r = (k, r.length + 1) := by
    unfold shapeL
    rcases h with ⟨h, rfl⟩ | ⟨h, rfl⟩
    · rw [if_pos h, hr]
    · rw [if_neg (by omega), if_pos h, hr]
  have ht : tokL valL (c :: r) = some (k, r.length + 1, zeroL) := by
    show Option.map _ (meanL valL (shapeL c r).1 ((c :: r).take (shapeL c r).2)) = _
    rw [hsh]
    have hk : k = 1 ∨ k = 2 := by omega
    have h2 : (c :: r).take (r.length + 1) = c :: r := by rw [List.take_of_length_le (by simp)]
    simp only [h2]
    unfold meanL
    rw [if_pos hk, if_pos (by simp; omega)]
    rfl
  have h1 : lexS valL (c :: r) 0 = ([⟨k, c :: r, zeroL, 0⟩], none) := by
    rw [lexS_solid hs, lexG_tok ht]
    have h2 : (c :: r).drop (r.length + 1) = [] := by simp
    have h3 : (c :: r).take (r.length + 1) = c :: r := by rw [List.take_of_length_le (by simp)]
    rw [h2, h3, lexS_end (by rfl)]
  unfold kindL
  rw [h1]
  simp
def exX : TmL := ⟨1, [88], zeroL⟩
def exA : TmL := ⟨3, [], zeroL⟩
def exN : TmL := ⟨2, [], (1, -3, ⟨#[]⟩)⟩
def exP : AtL := ⟨[112], [exX]⟩
def exQ : AtL := ⟨[113], [exX, exA]⟩
def exR : RuL := ⟨exP, [⟨2, exQ, 0, zeroT, zeroT⟩, ⟨3, zeroA, 2, exX, exN⟩]⟩
def exO : OnL := ⟨[103, 111], [([88], 1)], [⟨true, exP⟩]⟩
def txR : List UInt8 := [112, 40, 88, 41, 32, 58, 45, 32, 110, 111, 116, 32, 113, 40, 88, 44, 32, 95, 41, 44, 32, 88, 32, 33, 61, 32, 45, 51, 46]
def txO : List UInt8 := [111, 110, 32, 103, 111, 40, 88, 32, 105, 110, 116, 41, 58, 32, 43, 112, 40, 88, 41, 46]
theorem exName {c : UInt8} {r : List UInt8} (h : cls c = 1) (hs : solid c) (hr : r.takeWhile inB = r) (hl : r.length ≤ 63) (hv : reservedL (c :: r) = false) : nameP (c :: r) = some (c :: r) := by
  unfold nameP nameB
  rw [kind_word c r 1 (.inl ⟨h, rfl⟩) hs hr hl, hv]
  rfl
theorem exVar {c : UInt8} {r : List UInt8} (h : cls c = 2) (hs : solid c) (hr : r.takeWhile inB = r) (hl : r.length ≤ 63) : varB (c :: r) = true := by
  unfold varB
  rw [kind_word c r 2 (.inr ⟨h, rfl⟩) hs hr hl]
  rfl
theorem exVarX : varB [88] = true := exVar (by decide) (by unfold solid; decide) (by decide) (by decide)
theorem exAb : varB [65, 98] = true := exVar (by decide) (by unfold solid; decide) (by decide) (by decide)
theorem exNot : ¬ nameB [110, 111, 116] = true := by unfold nameB; simp [reservedL, wNot]
theorem exTX : termP exX = some [88] := by
  unfold termP
  rw [if_pos (show exX.kind = 1 from rfl), if_pos ⟨exVarX, rfl⟩]
  rfl
theorem exTA : termP exA = some [95] := by
  unfold termP
  rw [if_neg (by decide), if_neg (by decide), if_pos (show exA.kind = 3 from rfl), if_pos ⟨rfl, rfl⟩]
theorem exTN : termP exN = some [45, 51] := by
  have h1 : IsV (1 : Int) (-3) ⟨#[]⟩ := .inl ⟨rfl, by rw [Lib.toList_data]⟩
  have h2 : textL 1 (-3) ⟨#[]⟩ = [45, 51] := by
    unfold textL
    rw [if_pos rfl]
    unfold Lib.itoa
    simp [dd_small]
  unfold termP
  rw [if_neg (by decide), if_pos (show exN.kind = 2 from rfl), if_pos ⟨h1, rfl⟩]
  exact congrArg some h2
theorem exAP : atomP exP = some [112, 40, 88, 41] := by
  unfold atomP namedP rowP
  rw [show nameP exP.pred = some [112] from exName (by decide) (by unfold solid; decide) (by decide) (by decide) (by decide)]
  show two (some [112]) ((allO [termP exX]).map (joinS [44, 32])) _ = _
  rw [exTX]
  rfl
theorem exAQ : atomP exQ = some [113, 40, 88, 44, 32, 95, 41] := by
  unfold atomP namedP rowP
  rw [show nameP exQ.pred = some [113] from exName (by decide) (by unfold solid; decide) (by decide) (by decide) (by decide)]
  show two (some [113]) ((allO [termP exX, termP exA]).map (joinS [44, 32])) _ = _
  rw [exTX, exTA]
  rfl
theorem ex_rule : ruleP exR = some txR := by
  unfold ruleP
  rw [show exR.head = exP from rfl, exAP]
  have h1 : litP ⟨2, exQ, 0, zeroT, zeroT⟩ = some [110, 111, 116, 32, 113, 40, 88, 44, 32, 95, 41] := by
    rw [(lit_pos (.inr rfl)).1 ⟨rfl, rfl, rfl⟩, exAQ]
    rfl
  have h2 : litP ⟨3, zeroA, 2, exX, exN⟩ = some [88, 32, 33, 61, 32, 45, 51] := by
    rw [(lit_cmp rfl).1 ⟨rfl, rfl⟩]
    unfold cmpP
    simp only [exTX, exTN]
    rfl
  unfold tailP
  rw [if_neg (by decide)]
  unfold rowP
  show two _ (((allO [litP ⟨2, exQ, 0, zeroT, zeroT⟩, litP ⟨3, zeroA, 2, exX, exN⟩]).map (joinS [44, 32])).map _) _ = _
  rw [h1, h2]
  rfl
theorem ex_on : onP exO = some txO := by
  unfold onP
  have h1 : actP ⟨true, exP⟩ = some [43, 112, 40, 88, 41] := by
    unfold actP
    simp only [exAP]
    rfl
  have h2 : paramP ([88], 1) = some [88, 32, 105, 110, 116] := by
    unfold paramP varP
    simp only [exVarX]
    rfl
  have h3 : namedP paramP exO.event exO.params = some [103, 111, 40, 88, 32, 105, 110, 116, 41] := by
    unfold namedP rowP
    rw [show nameP exO.event = some [103, 111] from exName (by decide) (by unfold solid; decide) (by decide) (by decide) (by decide)]
    show two (some [103, 111]) ((allO [paramP ([88], 1)]).map (joinS [44, 32])) _ = _
    rw [h2]
    rfl
  rw [h3]
  unfold tailP
  rw [if_neg (by decide)]
  unfold rowP
  show two _ (((allO [actP ⟨true, exP⟩]).map (joinS [44, 32])).map _) _ = _
  rw [h1]
  rfl
theorem i64_small {n : Int} (h : -100 ≤ n ∧ n ≤ 100) : I64 n := ⟨by omega, by omega⟩
theorem smX : SmT exX := ⟨by decide, i64_small (by decide)⟩
theorem smA_ : SmT exA := ⟨by decide, i64_small (by decide)⟩
theorem smN : SmT exN := ⟨by decide, i64_small (by decide)⟩
theorem smZ : SmT zeroT := ⟨by decide, i64_small (by decide)⟩
theorem smP : SmA exP := ⟨by decide, by decide, fun t h => by obtain rfl : t = exX := (by simpa [exP] using h); exact smX⟩
theorem smQ : SmA exQ := ⟨by decide, by decide, fun t h => by
  rcases (show t = exX ∨ t = exA by simpa [exQ] using h) with rfl | rfl
  · exact smX
  · exact smA_⟩
theorem smR : SmR exR := ⟨smP, by decide, fun l h => by
  rcases (show l = ⟨2, exQ, 0, zeroT, zeroT⟩ ∨ l = ⟨3, zeroA, 2, exX, exN⟩ by simpa [exR] using h) with rfl | rfl
  · exact ⟨smQ, smZ, smZ⟩
  · exact ⟨⟨by decide, by decide, fun t h => by simp [zeroA] at h⟩, smX, smN⟩⟩
theorem smO : SmO exO := ⟨by decide, by decide, fun p h => by obtain rfl : p = ([88], 1) := (by simpa [exO] using h); decide, by decide, fun a h => by obtain rfl : a = ⟨true, exP⟩ := (by simpa [exO] using h); exact smP⟩
end
section
open Go Go.RowKit Go.Shelf

theorem alloc5 {w W : World} {o0 o1 o2 o3 o4 : Obj} (h : (((((w.alloc o0).alloc o1).alloc o2).alloc o3).alloc o4).drew = W) :
    (W.heap[w.heap.size]? = some o0 ∧ W.heap[w.heap.size + 1]? = some o1 ∧ W.heap[w.heap.size + 1 + 1]? = some o2 ∧ W.heap[w.heap.size + 1 + 1 + 1]? = some o3 ∧ W.heap[w.heap.size + 1 + 1 + 1 + 1]? = some o4) ∧ Below w.heap.size w W := by
  subst h
  have b1 := (Below.refl w.heap.size w).alloc (Nat.le_refl _) o0
  have b2 := b1.alloc (by simp) o1
  have b3 := b2.alloc (by simp; omega) o2
  have b4 := b3.alloc (by simp; omega) o3
  have b5 := b4.alloc (by simp; omega) o4
  have s1 : (w.alloc o0).heap.size = w.heap.size + 1 := by simp
  have s2 : ((w.alloc o0).alloc o1).heap.size = w.heap.size + 1 + 1 := by simp
  have s3 : (((w.alloc o0).alloc o1).alloc o2).heap.size = w.heap.size + 1 + 1 + 1 := by simp
  have s4 : ((((w.alloc o0).alloc o1).alloc o2).alloc o3).heap.size = w.heap.size + 1 + 1 + 1 + 1 := by simp
  have x0 := heap_alloc_new w o0
  have x1 := heap_alloc_new (w.alloc o0) o1
  have x2 := heap_alloc_new ((w.alloc o0).alloc o1) o2
  have x3 := heap_alloc_new (((w.alloc o0).alloc o1).alloc o2) o3
  have x4 := heap_alloc_new ((((w.alloc o0).alloc o1).alloc o2).alloc o3) o4
  rw [s1] at x1
  rw [s2] at x2
  rw [s3] at x3
  rw [s4] at x4
  have up : ∀ {A : World} {b : Nat} {o p : Obj}, A.heap[b]? = some o → (A.alloc p).heap[b]? = some o := fun h => (Below.heap_alloc _ _ _ (Array.getElem?_eq_some_iff.1 h).1).trans h
  exact ⟨⟨up (up (up (up x0))), up (up (up x1)), up (up x2), up x3, x4⟩, b5.drew⟩
/-- A row laid out in a block. -/
theorem row_of_block {α : Type} {Y : Lay α} {S : Nat → Prop} {W : World} {b : Nat} {cs : Array Value} {t : TypeId} {L : List α} (hb : W.heap[b]? = some (.cells cs t (0, 0))) (hS : S b) (hL : L.length ≤ 1000) (h : ∀ j (hj : j < L.length), ∃ us, Y.is S W us L[j] ∧ ∀ i u, us[i]? = some u → cs[j * Y.sz + i]? = some u) :
    RowIn Y S W (.slice (some ⟨b, 0, none⟩) L.length L.length) L :=
  ⟨_, _, rfl, Nat.le_refl _, by unfold maxLen; omega, .inr ⟨b, 0, rfl, hS, (Array.getElem?_eq_some_iff.1 hb).1, fun j hj => by
    obtain ⟨us, hu, hc⟩ := h j hj
    exact ⟨us, hu, fun i u e => by rw [Nat.zero_add]; exact cell_at hb _ _ (hc i u e)⟩⟩⟩
abbrev cellsX : Array Value := #[.int .i64 1, .string ⟨#[88]⟩, .int .i64 0, .int .i64 0, .string ⟨#[]⟩]
abbrev cellsXA : Array Value := #[.int .i64 1, .string ⟨#[88]⟩, .int .i64 0, .int .i64 0, .string ⟨#[]⟩, .int .i64 3, .string ⟨#[]⟩, .int .i64 0, .int .i64 0, .string ⟨#[]⟩]
theorem row_x {W : World} {b : Nat} {t : TypeId} (h : W.heap[b]? = some (.cells cellsX t (0, 0))) : RowIn tmY (fun _ => True) W (.slice (some ⟨b, 0, none⟩) 1 1) exP.args := by
  refine row_of_block (L := exP.args) h trivial (by decide) fun j hj => ?_
  obtain rfl : j = 0 := by simp [exP] at hj; omega
  refine ⟨cellT exX, rfl, fun i u e => ?_⟩
  rw [Nat.zero_mul, Nat.zero_add]
  have e' : (cellT exX).toArray[i]? = some u := by rw [List.getElem?_toArray]; exact e
  exact e'
theorem row_xa {W : World} {b : Nat} {t : TypeId} (h : W.heap[b]? = some (.cells cellsXA t (0, 0))) : RowIn tmY (fun _ => True) W (.slice (some ⟨b, 0, none⟩) 2 2) exQ.args := by
  refine row_of_block (L := exQ.args) h trivial (by decide) fun j hj => ?_
  rcases (show j = 0 ∨ j = 1 by simp [exQ] at hj; omega) with rfl | rfl
  · refine ⟨cellT exX, rfl, fun i u e => ?_⟩
    rw [Nat.zero_mul, Nat.zero_add]
    have hi := (List.getElem?_eq_some_iff.1 e).1
    have : i < 5 := hi
    rw [← e]
    match i, this with
    | 0, _ => rfl
    | 1, _ => rfl
    | 2, _ => rfl
    | 3, _ => rfl
    | 4, _ => rfl
  · refine ⟨cellT exA, rfl, fun i u e => ?_⟩
    have hi := (List.getElem?_eq_some_iff.1 e).1
    have : i < 5 := hi
    rw [← e]
    match i, this with
    | 0, _ => rfl
    | 1, _ => rfl
    | 2, _ => rfl
    | 3, _ => rfl
    | 4, _ => rfl
abbrev cellsB (bq : Nat) : Array Value := #[.int .i64 2, .string ⟨#[113]⟩, .slice (some ⟨bq, 0, none⟩) 2 2, .int .i64 0, .int .i64 0, .string ⟨#[]⟩, .int .i64 0, .int .i64 0, .string ⟨#[]⟩, .int .i64 0, .string ⟨#[]⟩, .int .i64 0, .int .i64 0, .string ⟨#[]⟩,
  .int .i64 3, .string ⟨#[]⟩, .slice none 0 0, .int .i64 2, .int .i64 1, .string ⟨#[88]⟩, .int .i64 0, .int .i64 0, .string ⟨#[]⟩, .int .i64 2, .string ⟨#[]⟩, .int .i64 1, .int .i64 (-3), .string ⟨#[]⟩]
theorem row_b {W : World} {b bq : Nat} {t tq : TypeId} (hq : W.heap[bq]? = some (.cells cellsXA tq (0, 0))) (h : W.heap[b]? = some (.cells (cellsB bq) t (0, 0))) : RowIn liY (fun _ => True) W (.slice (some ⟨b, 0, none⟩) 2 2) exR.body := by
  refine row_of_block (L := exR.body) h trivial (by decide) fun j hj => ?_
  rcases (show j = 0 ∨ j = 1 by simp [exR] at hj; omega) with rfl | rfl
  · refine ⟨_, ⟨.slice (some ⟨bq, 0, none⟩) 2 2, rfl, row_xa hq⟩, fun i u e => ?_⟩
    rw [Nat.zero_mul, Nat.zero_add, ← e]
    have hi := (List.getElem?_eq_some_iff.1 e).1
    have : i < 14 := hi
    match i, this with
    | 0, _ => rfl
    | 1, _ => rfl
    | 2, _ => rfl
    | 3, _ => rfl
    | 4, _ => rfl
    | 5, _ => rfl
    | 6, _ => rfl
    | 7, _ => rfl
    | 8, _ => rfl
    | 9, _ => rfl
    | 10, _ => rfl
    | 11, _ => rfl
    | 12, _ => rfl
    | 13, _ => rfl
  · refine ⟨_, ⟨.slice none 0 0, rfl, RowIn.nil _ _ _⟩, fun i u e => ?_⟩
    rw [← e]
    have hi := (List.getElem?_eq_some_iff.1 e).1
    have : i < 14 := hi
    match i, this with
    | 0, _ => rfl
    | 1, _ => rfl
    | 2, _ => rfl
    | 3, _ => rfl
    | 4, _ => rfl
    | 5, _ => rfl
    | 6, _ => rfl
    | 7, _ => rfl
    | 8, _ => rfl
    | 9, _ => rfl
    | 10, _ => rfl
    | 11, _ => rfl
    | 12, _ => rfl
    | 13, _ => rfl
theorem say_some {o : List UInt8} {w w' : World} {e : Ending} (h : SayP (some o) w e w') : e = .returned (.tuple #[.string ⟨o.toArray⟩, .int .i64 0]) ∧ Below w.heap.size w w' := by
  obtain ⟨⟨s, h1, h2⟩ | ⟨h1, -⟩, hb⟩ := h
  · injection h1 with h1
    refine ⟨?_, hb⟩
    rw [h2, str_of_list h1]
  · cases h1
theorem ex_rule_call {W : World} {bp bq : Nat} {tp tq t : TypeId} (hp : W.heap[bp]? = some (.cells cellsX tp (0, 0))) (hq : W.heap[bq]? = some (.cells cellsXA tq (0, 0))) (G : Glob W) :
    Calls Tryd.prog 8 #[.agg #[.string ⟨#[112]⟩, .slice (some ⟨bp, 0, none⟩) 1 1, .slice (some ⟨W.heap.size, 0, none⟩) 2 2]] (W.alloc (.cells (cellsB bq) t)) fun e w' => e = .returned (.tuple #[.string ⟨txR.toArray⟩, .int .i64 0]) ∧ Below W.heap.size W w' := by
  have B1 := (Below.refl W.heap.size W).alloc (Nat.le_refl _) (.cells (cellsB bq) t)
  have hp' := (B1.block bp (Array.getElem?_eq_some_iff.1 hp).1).trans hp
  have hq' := (B1.block bq (Array.getElem?_eq_some_iff.1 hq).1).trans hq
  refine (pRule_any exR _ _ (fun _ => True) _ (row_x hp') (row_b hq' (heap_alloc_new W _)) smR (G.below B1)).mono fun e w' h => ?_
  rw [ex_rule] at h
  exact ⟨(say_some h).1, B1.trans ((say_some h).2.mono B1.size)⟩
theorem row_pa {W : World} {b : Nat} {t : TypeId} (h : W.heap[b]? = some (.cells #[.string ⟨#[88]⟩, .int .i64 1] t (0, 0))) : RowIn paY (fun _ => True) W (.slice (some ⟨b, 0, none⟩) 1 1) exO.params := by
  refine row_of_block (L := exO.params) h trivial (by decide) fun j hj => ?_
  obtain rfl : j = 0 := by simp [exO] at hj; omega
  refine ⟨_, rfl, fun i u e => ?_⟩
  rw [Nat.zero_mul, Nat.zero_add]
  rw [← List.getElem?_toArray] at e
  exact e
theorem row_ac {W : World} {b bp : Nat} {t tp : TypeId} (hp : W.heap[bp]? = some (.cells cellsX tp (0, 0))) (h : W.heap[b]? = some (.cells #[.bool true, .string ⟨#[112]⟩, .slice (some ⟨bp, 0, none⟩) 1 1] t (0, 0))) : RowIn acY (fun _ => True) W (.slice (some ⟨b, 0, none⟩) 1 1) exO.acts := by
  refine row_of_block (L := exO.acts) h trivial (by decide) fun j hj => ?_
  obtain rfl : j = 0 := by simp [exO] at hj; omega
  refine ⟨_, ⟨.slice (some ⟨bp, 0, none⟩) 1 1, rfl, row_x hp⟩, fun i u e => ?_⟩
  rw [Nat.zero_mul, Nat.zero_add]
  rw [← List.getElem?_toArray] at e
  exact e
theorem ex_on_call {W : World} {bp : Nat} {tp t1 t2 : TypeId} (hp : W.heap[bp]? = some (.cells cellsX tp (0, 0))) (G : Glob W) :
    Calls Tryd.prog 9 #[.agg #[.string ⟨#[103, 111]⟩, .slice (some ⟨W.heap.size, 0, none⟩) 1 1, .slice (some ⟨W.heap.size + 1, 0, none⟩) 1 1]] ((W.alloc (.cells #[.string ⟨#[88]⟩, .int .i64 1] t1)).alloc (.cells #[.bool true, .string ⟨#[112]⟩, .slice (some ⟨bp, 0, none⟩) 1 1] t2)) fun e w' => e = .returned (.tuple #[.string ⟨txO.toArray⟩, .int .i64 0]) ∧ Below W.heap.size W w' := by
  have B1 := below_box2 W (.cells #[.string ⟨#[88]⟩, .int .i64 1] t1) (.cells #[.bool true, .string ⟨#[112]⟩, .slice (some ⟨bp, 0, none⟩) 1 1] t2)
  have hp' := (B1.block bp (Array.getElem?_eq_some_iff.1 hp).1).trans hp
  obtain ⟨n1, n2⟩ := two_newA W (.cells #[.string ⟨#[88]⟩, .int .i64 1] t1) (.cells #[.bool true, .string ⟨#[112]⟩, .slice (some ⟨bp, 0, none⟩) 1 1] t2)
  refine (pOn_any exO _ _ (fun _ => True) _ (row_pa n1) (row_ac hp' n2) smO (G.below B1)).mono fun e w' h => ?_
  rw [ex_on] at h
  exact ⟨(say_some h).1, B1.trans ((say_some h).2.mono B1.size)⟩
theorem txR_eq : ((⟨txR.toArray⟩ : ByteArray).toList == txR) = true := by rw [Lib.toList_data]; simp
theorem ex_name (w : World) (G : Glob w) : Calls Tryd.prog 14 #[.string ⟨#[110, 111, 116]⟩] w fun e w' => e = .returned (.bool false) ∧ Below w.heap.size w w' := by
  refine (pName_any ⟨#[110, 111, 116]⟩ w (by decide) G).mono fun e w' h => ⟨?_, h.2⟩
  rw [h.1]
  have : nameB (⟨#[110, 111, 116]⟩ : ByteArray).data.toList = false := by cases e : nameB (⟨#[110, 111, 116]⟩ : ByteArray).data.toList with | false => rfl | true => exact absurd e exNot
  rw [this]
theorem ex_var (w : World) (G : Glob w) : Calls Tryd.prog 15 #[.string ⟨#[65, 98]⟩] w fun e w' => e = .returned (.bool true) ∧ Below w.heap.size w w' := by
  refine (pVar_any ⟨#[65, 98]⟩ w (by decide) G).mono fun e w' h => ⟨?_, h.2⟩
  rw [h.1]
  exact congrArg (fun b => Ending.returned (.bool b)) exAb
end
section
open Go Go.RowKit Go.Shelf

set_option maxRecDepth 100000 in
set_option maxHeartbeats 20000000 in
theorem pawake_any (w : World) (G : Glob w) : Calls Tryd.prog 4 #[] w fun e w' => e = .returned (.bool true) ∧ Below w.heap.size w w' := by
  have HG := Lib.hid G
  clear G
  go_enter Tryd.func4, Tryd.ntmps4
  go_wp2_with fail
  go_region
  all_goals
    generalize hW : World.drew _ = W
    obtain ⟨⟨x0, x1, x2, x3, x4⟩, hb⟩ := alloc5 hW
    have HX := Lib.hid (And.intro x0 (And.intro x1 (And.intro x2 (And.intro x3 x4))))
    have HB := Lib.hid hb
    obtain ⟨c0, c1, c2, c3, c4⟩ := five_cells x0
    have d10 := cell_at x1 0 _ rfl
    have d11 := cell_at x1 1 _ rfl
    have d20 := cell_at x2 0 _ rfl
    have d21 := cell_at x2 1 _ rfl
    have d30 := cell_at x3 0 _ rfl
    have d31 := cell_at x3 1 _ rfl
    have d40 := cell_at x4 0 _ rfl
    have d41 := cell_at x4 1 _ rfl
    clear x0 x1 x2 x3 x4 hb hW
    go_wp2_with fail
    refine (ex_rule_call (by first | exact HX.out.2.1 | exact HX.out.2.2.1 | exact HX.out.2.2.2.1 | exact HX.out.2.2.2.2) (by first | exact HX.out.2.1 | exact HX.out.2.2.1 | exact HX.out.2.2.2.1 | exact HX.out.2.2.2.2) (HG.out.below HB.out)).mono ?_
    rintro y w1 ⟨rfl, hb⟩
    have ok : ∀ {b : Nat} {o : Obj}, W.heap[b]? = some o → w1.heap[b]? = some o := fun h => (hb.block _ (Array.getElem?_eq_some_iff.1 h).1).trans h
    have HY := Lib.hid (And.intro (ok HX.out.2.1) (And.intro (ok HX.out.2.2.1) (And.intro (ok HX.out.2.2.2.1) (ok HX.out.2.2.2.2))))
    have HB1 := Lib.hid (HB.out.trans (hb.mono HB.out.size))
    clear hb ok c0 c1 c2 c3 c4 d10 d11 d20 d21 d30 d31 d40 d41
    have up : ∀ {b : Nat} {p : Obj}, w1.heap[b]? = some p → (w1.alloc (.cells #[.string ⟨#[88]⟩, .int .i64 1] 60)).heap[b]? = some p := fun h => (Below.heap_alloc _ _ _ (Array.getElem?_eq_some_iff.1 h).1).trans h
    have d10 := cell_at (up HY.out.1) 0 _ rfl
    have d11 := cell_at (up HY.out.1) 1 _ rfl
    have d20 := cell_at (up HY.out.2.1) 0 _ rfl
    have d21 := cell_at (up HY.out.2.1) 1 _ rfl
    have d30 := cell_at (up HY.out.2.2.1) 0 _ rfl
    have d31 := cell_at (up HY.out.2.2.1) 1 _ rfl
    have d40 := cell_at (up HY.out.2.2.2) 0 _ rfl
    have d41 := cell_at (up HY.out.2.2.2) 1 _ rfl
    clear up
    go_wp2_with fail
    refine (ex_on_call (by first | exact HY.out.1 | exact HY.out.2.1 | exact HY.out.2.2.1 | exact HY.out.2.2.2) (HG.out.below HB1.out)).mono ?_
    rintro y w2 ⟨rfl, hb⟩
    have HB2 := Lib.hid (HB1.out.trans (hb.mono HB1.out.size))
    clear hb d10 d11 d20 d21 d30 d31 d40 d41
    go_wp2_with fail
    refine (ex_name w2 (HG.out.below HB2.out)).mono ?_
    rintro y w3 ⟨rfl, hb⟩
    have HB3 := Lib.hid (HB2.out.trans (hb.mono HB2.out.size))
    clear hb
    go_wp2_with fail
    refine (ex_var w3 (HG.out.below HB3.out)).mono ?_
    rintro y w4 ⟨rfl, hb⟩
    have HB4 := Lib.hid (HB3.out.trans (hb.mono HB3.out.size))
    clear hb
    go_wp2_with fail
    go_ret
    exact ⟨rfl, HB4.out⟩
end
end Go.Proofs.YtfjpiofinffpfaaDoor
