/-
  Contract of run.Write on a new disk.
  Contracts of run.answered, at what answers a run and at what answers entries.
  A run that nobody opened: what its methods answer.
-/
import Derived.Test.YtdjhfcopnhcljaaGreatDoorW37
namespace Go.Proofs.YtdjhfcopnhcljaaGreatDoor
section
open Go Go.RowKit Go.Maps Go.WideMaps

theorem Grow.of_setCell (W : World) (B : Nat) (u : Value) : Grow (fun k => k = B) W (W.setCell ⟨B, 0, none⟩ u) := (Grow.refl _ W).setCell ⟨B, 0, none⟩ u (fun _ => rfl)
/-- What Write leaves of a run on a new disk. -/
def WrittenAt (n0 d : Nat) (s : ByteArray) (L : List UInt8) (w w' : World) : Prop := ∃ Y, FlAt w' d s L Y ∧ (∀ k, Y k → n0 ≤ k ∧ k < w'.heap.size) ∧ Below n0 w w'
set_option maxRecDepth 100000 in
set_option maxHeartbeats 4000000 in
theorem rwrite_any {n0 : Nat} {w : World} {room : Int} (v : Value) (E : List Ct) (s : ByteArray)
    (h : DkS n0 w (n0 + 4) n0 (n0 + 1) (n0 + 2) (n0 + 3) room 0 0 0 0 0 0 (.map []) (.map []) (.map []) (.map []) (.slice none 0 0) []) (hroom : 100 ≤ room)
    (hv : EnIn w.heap.size w v E) (hE : E.length ≤ 1000) (hK : Kin E) (hR : IsRun E) (hL : (runL E).length ≤ 1000) (hs : 1 ≤ s.size ∧ s.size ≤ 64) (G : Glob w) :
    Calls Tryz.prog 24 #[.pointer (some ⟨n0 + 4, 0, none⟩), .string s, v] w fun e w' => e = .returned (.int .i64 0) ∧ WrittenAt n0 (n0 + 4) s (runL E) w w' := by
  have HS := Lib.hid h
  have HV := Lib.hid hv
  have HG := Lib.hid G
  have HLn := Lib.hid (And.intro hL hs)
  have HKR := Lib.hid (And.intro hK hR)
  have hdl := h.on.lt
  obtain ⟨pv, cv, rfl, -⟩ := hv
  have HDl := Lib.hid hdl
  clear h G hL hs hK hR hdl
  go_enter Tryz.func24, Tryz.ntmps24
  go_wp2_with fail
  obtain ⟨wb, hwb⟩ : ∃ wb, wb = ((w.alloc (.cells #[.pointer (some ⟨n0 + 4, 0, none⟩)] 43)).alloc (.cells #[.string s] 9)).alloc (.cells #[.slice pv E.length cv] 22) := ⟨_, rfl⟩
  have hsb : wb.heap.size = w.heap.size + 3 := by rw [hwb]; simp
  have h0 : wb.heap[w.heap.size]? = some (.cells #[.pointer (some ⟨n0 + 4, 0, none⟩)] 43 (0, 0)) := by
    rw [hwb]
    exact (Below.heap_alloc _ _ _ (by simp only [World.size_alloc]; omega)).trans ((Below.heap_alloc _ _ _ (by simp only [World.size_alloc]; omega)).trans (World.alloc_heap_new w _))
  have h1 : wb.heap[w.heap.size + 1]? = some (.cells #[.string s] 9 (0, 0)) := by
    rw [hwb]
    have n1 := World.alloc_heap_new (w.alloc (.cells #[.pointer (some ⟨n0 + 4, 0, none⟩)] 43)) (.cells #[.string s] 9)
    simp only [World.size_alloc] at n1
    exact (Below.heap_alloc _ _ _ (by simp only [World.size_alloc]; omega)).trans n1
  have h2 : wb.heap[w.heap.size + 1 + 1]? = some (.cells #[.slice pv E.length cv] 22 (0, 0)) := by
    rw [hwb]
    have n2 := World.alloc_heap_new ((w.alloc (.cells #[.pointer (some ⟨n0 + 4, 0, none⟩)] 43)).alloc (.cells #[.string s] 9)) (.cells #[.slice pv E.length cv] 22)
    simp only [World.size_alloc] at n2
    exact n2
  have hbb : Below w.heap.size w wb := by
    rw [hwb]
    exact (((Below.refl _ _).alloc (Nat.le_refl _) _).alloc (by simp) _).alloc (by simp only [World.size_alloc]; omega) _
  have hEb := below_new wb (.cells #[.int .i64 0] 25)
  have hbE := hbb.trans (hEb.mono hbb.size)
  have hEc := World.alloc_heap_new wb (.cells #[.int .i64 0] 25)
  have kk : ∀ {k : Nat} {o : Obj}, wb.heap[k]? = some o → (wb.alloc (.cells #[.int .i64 0] 25)).heap[k]? = some o := fun h => (hEb.block _ (Array.getElem?_eq_some_iff.1 h).1).trans h
  have hdl := HDl.out
  have hw := write1_any (n1 := n0 + 5) (bl := w.heap.size + 1 + 1) (bd := w.heap.size) (bs := w.heap.size + 1) (Eb := wb.heap.size) (.slice pv E.length cv) E s (HS.out.same (Grow.fromB hbE)) rfl hroom ⟨kk h2, by omega⟩ ⟨kk h0, by omega⟩ ⟨kk h1, by omega⟩ ⟨hEc, by omega⟩
    ((HV.out.below hbE).mono hbE.size) hE HKR.out.1 HKR.out.2 HLn.out.1 HLn.out.2 (HG.out.below hbE) (fun _ _ => False)
  have HT := Lib.hid (tried_any 67 _ wb _ _ (enters_of Tryz.func67 (by kernel_rfl) rfl) hw)
  have HBE := Lib.hid hbE
  rw [← hwb]
  clear hw hEc hEb hbb h0 h1 h2 hwb kk hbE
  refine HT.out.mono ?_
  rintro e W ⟨W1, n, ⟨rfl, hR⟩ | hx, rfl, rfl⟩
  · have HR := Lib.hid hR
    clear hR HT
    go_wp2_with fail
    go_ret
    obtain ⟨Y, hf, hY, hb, hn⟩ := HR.out
    refine ⟨rfl, Y, hf.grow (Grow.of_setCell _ _ _) (fun k e e' => (hY k e').2.1 (e.trans hsb.symm)), fun k e => ⟨(hY k e).1, ?_⟩, ?_⟩
    · have := (hY k e).2.2
      simpa using this
    · exact ((HBE.out.mono (by omega)).trans hb).setCell (p := ⟨w.heap.size + 3, 0, none⟩) (by simp only; omega) _
  · exact hx.elim
end
section
open Go Go.RowKit

theorem set_kept {W : World} {B b : Nat} {v u : Value} {t : TypeId} (h : W.heap[b]? = some (.cells #[v] t (0, 0))) (hne : b ≠ B) : (W.setCell ⟨B, 0, none⟩ u).heap[b]? = some (.cells #[v] t (0, 0)) :=
  ((turned_setCell W B u).block _ (Array.getElem?_eq_some_iff.1 h).1 hne).trans h
theorem set_new {W : World} {b : Nat} {v u : Value} {t : TypeId} (h : W.heap[b]? = some (.cells #[v] t (0, 0))) : (W.setCell ⟨b, 0, none⟩ u).heap[b]? = some (.cells #[u] t (0, 0)) := heap_setCell_same W b 0 #[v] _ u h
/-- How what is answered may end. -/
def AnsR (R : Value → World → Prop) (Rx : Int → World → Prop) (w : World) (e : Ending) (w' : World) : Prop := Below w.heap.size w w' ∧ ((∃ v, e = .returned v ∧ R v w' ∧ ∃ p, v = .pointer p) ∨ ∃ n, e = .panicked (errP n) ∧ Rx n w')
set_option maxRecDepth 100000 in
set_option maxHeartbeats 1000000 in
theorem answ1R_any (k : Nat) (caps : Array Value) (bf br Eb : Nat) (w : World) (R : Value → World → Prop) (Rx : Int → World → Prop) (eg : ∀ args w, (callFunc k args).run Tryz.prog w = .ok (.enter k args) w)
    (hf : w.heap[bf]? = some (.cells #[.func (.func k) #[] caps] 157 (0, 0))) (hr : w.heap[br]? = some (.cells #[.pointer none] 53 (0, 0))) (hE : w.heap[Eb]? = some (.cells #[.int .i64 0] 25 (0, 0))) (hne : Eb ≠ br)
    (hdo : Calls Tryz.prog k caps w (AnsR R Rx w)) :
    Calls Tryz.prog 130 #[.pointer (some ⟨bf, 0, none⟩), .pointer (some ⟨br, 0, none⟩)] w
      (DoEnd Eb (fun W' => ∃ W v, R v W ∧ (∃ p, v = .pointer p) ∧ W' = W.setCell ⟨br, 0, none⟩ v ∧ Below w.heap.size w W) (fun n W' => Rx n W' ∧ Below w.heap.size w W')) := by
  have HD := Lib.hid hdo
  have HR := Lib.hid hr
  have HE := Lib.hid hE
  have HN := Lib.hid hne
  have c0 := (cell_at hf).1
  have hri : ∀ args w, (callFunc k args).run Tryz.prog w = .ok (.enter k args) w := eg
  clear hdo hr hE hne hf
  go_enter Tryz.func130, Tryz.ntmps130
  go_wp2_with fail
  refine HD.out.mono ?_
  rintro e w1 ⟨hb, ⟨v, rfl, hv, hs⟩ | ⟨n, rfl, hx⟩⟩
  · have HB := Lib.hid hb
    have HV := Lib.hid hv
    have HS := Lib.hid hs
    have hr1 := (hb.block _ (Array.getElem?_eq_some_iff.1 HR.out).1).trans HR.out
    have hE1 := (hb.block _ (Array.getElem?_eq_some_iff.1 HE.out).1).trans HE.out
    have HE1 := Lib.hid (cell_at (set_kept (u := v) hE1 HN.out))
    obtain ⟨c1, f1⟩ := cell_at hr1
    obtain ⟨p, rfl⟩ := hs
    clear hb hv hr1 hE1 c0
    go_wp2_with fail
    refine bodyPost_end (results_none rfl _ _ _) rfl ?_
    exact ⟨HE1.out, .inl ⟨⟨_, rfl⟩, w1, _, HV.out, HS.out, rfl, HB.out⟩⟩
  · have hE1 := (hb.block _ (Array.getElem?_eq_some_iff.1 HE.out).1).trans HE.out
    have HE1 := Lib.hid (cell_at hE1)
    have HX := Lib.hid (And.intro hx hb)
    clear hb hx hE1 c0
    go_wp2_with fail
    exact ⟨rfl, HE1.out, .inr ⟨n, rfl, HX.out⟩⟩
/-- What answered leaves. -/
def AnswR (R : Value → World → Prop) (Rx : Int → World → Prop) (w : World) (e : Ending) (w' : World) : Prop :=
  Below w.heap.size w w' ∧ ∃ W, Turned (fun k => k = w.heap.size + 1 ∨ k = w.heap.size + 2) W w' ∧ ((∃ v, e = .returned (.tuple #[v, .int .i64 0]) ∧ R v W) ∨ ∃ n, e = .returned (.tuple #[.pointer none, .int .i64 n]) ∧ Rx n W)
set_option maxRecDepth 100000 in
set_option maxHeartbeats 1000000 in
theorem answeredR_any (k : Nat) (caps : Array Value) (w : World) (R : Value → World → Prop) (Rx : Int → World → Prop) (eg : ∀ args w, (callFunc k args).run Tryz.prog w = .ok (.enter k args) w)
    (hdo : ∀ wE, Below w.heap.size w wE → (wE.heap.size = w.heap.size + 3 ∧ wE.heap[w.heap.size + 1]? = some (.cells #[.pointer none] 53 (0, 0)) ∧ wE.heap[w.heap.size + 2]? = some (.cells #[.int .i64 0] 25 (0, 0))) → Calls Tryz.prog k caps wE (AnsR R Rx wE)) :
    Calls Tryz.prog 74 #[.func (.func k) #[] caps] w (AnswR R Rx w) := by
  obtain ⟨wb, hwb⟩ : ∃ wb, wb = (w.alloc (.cells #[.func (.func k) #[] caps] 157)).alloc (.cells #[.pointer none] 53) := ⟨_, rfl⟩
  have hsb : wb.heap.size = w.heap.size + 2 := by rw [hwb]; simp
  have h0 : wb.heap[w.heap.size]? = some (.cells #[.func (.func k) #[] caps] 157 (0, 0)) := by
    rw [hwb]
    exact (Below.heap_alloc _ _ _ (by simp only [World.size_alloc]; omega)).trans (World.alloc_heap_new w _)
  have h1 : wb.heap[w.heap.size + 1]? = some (.cells #[.pointer none] 53 (0, 0)) := by
    rw [hwb]
    have n1 := World.alloc_heap_new (w.alloc (.cells #[.func (.func k) #[] caps] 157)) (.cells #[.pointer none] 53)
    simp only [World.size_alloc] at n1
    exact n1
  have hbb : Below w.heap.size w wb := by
    rw [hwb]
    exact ((Below.refl _ _).alloc (Nat.le_refl _) _).alloc (by simp) _
  obtain ⟨wE, hwE⟩ : ∃ wE, wE = wb.alloc (.cells #[.int .i64 0] 25) := ⟨_, rfl⟩
  have hbE : Below wb.heap.size wb wE := by rw [hwE]; exact below_new wb _
  have hE : wE.heap[wb.heap.size]? = some (.cells #[.int .i64 0] 25 (0, 0)) := by rw [hwE]; exact World.alloc_heap_new wb _
  have hsE : wE.heap.size = w.heap.size + 3 := by rw [hwE, World.size_alloc, hsb]
  have hB := hbb.trans (hbE.mono hbb.size)
  have k0 := (hbE.block _ (Array.getElem?_eq_some_iff.1 h0).1).trans h0
  have k1 := (hbE.block _ (Array.getElem?_eq_some_iff.1 h1).1).trans h1
  have h1w := answ1R_any k caps w.heap.size (w.heap.size + 1) wb.heap.size wE R Rx eg k0 k1 hE (by omega) (hdo wE hB ⟨hsE, k1, by rw [← hsb]; exact hE⟩)
  have HT := Lib.hid (tried_any 130 #[.pointer (some ⟨w.heap.size, 0, none⟩), .pointer (some ⟨w.heap.size + 1, 0, none⟩)] wb (fun W' => ∃ W v, R v W ∧ (∃ p, v = .pointer p) ∧ W' = W.setCell ⟨w.heap.size + 1, 0, none⟩ v ∧ Below wE.heap.size wE W) (fun n W' => Rx n W' ∧ Below wE.heap.size wE W') (enters_of Tryz.func130 (by kernel_rfl) rfl) (by rw [← hwE]; exact h1w))
  have HK1 := Lib.hid k1
  have HE := Lib.hid hE
  have HB := Lib.hid hB
  have HSz := Lib.hid (And.intro hsb hsE)
  clear h1w hdo k0 k1 hE hB h0 h1 hbb hbE hwE eg
  go_enter Tryz.func74, Tryz.ntmps74
  go_wp2_with fail
  rw [← hwb]
  clear hwb hsb hsE
  refine HT.out.mono ?_
  rintro e W ⟨W1, n, ⟨rfl, W0, v, hv, hs, rfl, hb⟩ | ⟨hx, hb⟩, rfl, rfl⟩
  · have hr0 := (hb.block _ (Array.getElem?_eq_some_iff.1 HK1.out).1).trans HK1.out
    have hr1 := set_kept (B := wb.heap.size) (u := .int .i64 0) (set_new (u := v) hr0) (by have := HSz.out.1; omega)
    have hr2 := set_new (u := v) hr1
    obtain ⟨c1, f1⟩ := cell_at hr1
    have c2 := (cell_at hr2).1
    have HV := Lib.hid hv
    have HB0 := Lib.hid hb
    obtain ⟨p, rfl⟩ := hs
    clear hv hb hr0 hr1 hr2 HT
    go_wp2_with fail
    refine bodyPost_ret (v := .tuple #[(.pointer p), .int .i64 0]) (by simp [results, Tryz.results74, go_sem, c2]) rfl ?_
    have t1 := turned_setCell W0 (w.heap.size + 1) (.pointer p)
    have t2 := turned_setCell (W0.setCell ⟨w.heap.size + 1, 0, none⟩ (.pointer p)) wb.heap.size (.int .i64 0)
    have t3 := turned_setCell ((W0.setCell ⟨w.heap.size + 1, 0, none⟩ (.pointer p)).setCell ⟨wb.heap.size, 0, none⟩ (.int .i64 0)) (w.heap.size + 1) (.pointer p)
    have hz := HSz.out
    have tt := ((t1.mono (Z := fun k => k = w.heap.size + 1 ∨ k = w.heap.size + 2) (fun k e => .inl e)).trans t2 (fun k _ e => .inr (by have e1 : k = wb.heap.size := e; omega))).trans t3 (fun k _ e => .inl e)
    have hbw := HB.out.trans (HB0.out.mono HB.out.size)
    exact ⟨hbw.trans (tt.below hbw.size (fun k e => by rcases e with e | e <;> omega)), W0, tt, .inl ⟨_, rfl, HV.out⟩⟩
  · have hr0 := (hb.block _ (Array.getElem?_eq_some_iff.1 HK1.out).1).trans HK1.out
    have hr1 := set_kept (B := wb.heap.size) (u := .int .i64 n) hr0 (by have := HSz.out.1; omega)
    have hr2 := set_new (u := .pointer none) hr1
    obtain ⟨c1, f1⟩ := cell_at hr1
    have c2 := (cell_at hr2).1
    have HX := Lib.hid hx
    have HB0 := Lib.hid hb
    clear hx hb hr0 hr1 hr2 HT
    go_wp2_with fail
    refine bodyPost_ret (v := .tuple #[.pointer none, .int .i64 n]) (by simp [results, Tryz.results74, go_sem, c2]) rfl ?_
    have t2 := turned_setCell W1 wb.heap.size (.int .i64 n)
    have t3 := turned_setCell (W1.setCell ⟨wb.heap.size, 0, none⟩ (.int .i64 n)) (w.heap.size + 1) (.pointer none)
    have hz := HSz.out
    have tt := (t2.mono (Z := fun k => k = w.heap.size + 1 ∨ k = w.heap.size + 2) (fun k e => .inr (by have e1 : k = wb.heap.size := e; omega))).trans t3 (fun k _ e => .inl e)
    have hbw := HB.out.trans (HB0.out.mono HB.out.size)
    exact ⟨hbw.trans (tt.below hbw.size (fun k e => by rcases e with e | e <;> omega)), W1, tt, .inr ⟨n, rfl, HX.out⟩⟩
/-- How what is answered may end. -/
def AnsC (R : Value → World → Prop) (Rx : Int → World → Prop) (w : World) (e : Ending) (w' : World) : Prop := Below w.heap.size w w' ∧ ((∃ v, e = .returned v ∧ R v w' ∧ ∃ p n c, v = .slice p n c) ∨ ∃ n, e = .panicked (errP n) ∧ Rx n w')
set_option maxRecDepth 100000 in
set_option maxHeartbeats 1000000 in
theorem answ1C_any (k : Nat) (caps : Array Value) (bf br Eb : Nat) (w : World) (R : Value → World → Prop) (Rx : Int → World → Prop) (eg : ∀ args w, (callFunc k args).run Tryz.prog w = .ok (.enter k args) w)
    (hf : w.heap[bf]? = some (.cells #[.func (.func k) #[] caps] 114 (0, 0))) (hr : w.heap[br]? = some (.cells #[.slice none 0 0] 22 (0, 0))) (hE : w.heap[Eb]? = some (.cells #[.int .i64 0] 25 (0, 0))) (hne : Eb ≠ br)
    (hdo : Calls Tryz.prog k caps w (AnsC R Rx w)) :
    Calls Tryz.prog 109 #[.pointer (some ⟨bf, 0, none⟩), .pointer (some ⟨br, 0, none⟩)] w
      (DoEnd Eb (fun W' => ∃ W v, R v W ∧ (∃ p n c, v = .slice p n c) ∧ W' = W.setCell ⟨br, 0, none⟩ v ∧ Below w.heap.size w W) (fun n W' => Rx n W' ∧ Below w.heap.size w W')) := by
  have HD := Lib.hid hdo
  have HR := Lib.hid hr
  have HE := Lib.hid hE
  have HN := Lib.hid hne
  have c0 := (cell_at hf).1
  have hri : ∀ args w, (callFunc k args).run Tryz.prog w = .ok (.enter k args) w := eg
  clear hdo hr hE hne hf
  go_enter Tryz.func109, Tryz.ntmps109
  go_wp2_with fail
  refine HD.out.mono ?_
  rintro e w1 ⟨hb, ⟨v, rfl, hv, hs⟩ | ⟨n, rfl, hx⟩⟩
  · have HB := Lib.hid hb
    have HV := Lib.hid hv
    have HS := Lib.hid hs
    have hr1 := (hb.block _ (Array.getElem?_eq_some_iff.1 HR.out).1).trans HR.out
    have hE1 := (hb.block _ (Array.getElem?_eq_some_iff.1 HE.out).1).trans HE.out
    have HE1 := Lib.hid (cell_at (set_kept (u := v) hE1 HN.out))
    obtain ⟨c1, f1⟩ := cell_at hr1
    obtain ⟨p, n, c, rfl⟩ := hs
    clear hb hv hr1 hE1 c0
    go_wp2_with fail
    refine bodyPost_end (results_none rfl _ _ _) rfl ?_
    exact ⟨HE1.out, .inl ⟨⟨_, rfl⟩, w1, _, HV.out, HS.out, rfl, HB.out⟩⟩
  · have hE1 := (hb.block _ (Array.getElem?_eq_some_iff.1 HE.out).1).trans HE.out
    have HE1 := Lib.hid (cell_at hE1)
    have HX := Lib.hid (And.intro hx hb)
    clear hb hx hE1 c0
    go_wp2_with fail
    exact ⟨rfl, HE1.out, .inr ⟨n, rfl, HX.out⟩⟩
/-- What answered leaves. -/
def AnswC (R : Value → World → Prop) (Rx : Int → World → Prop) (w : World) (e : Ending) (w' : World) : Prop :=
  Below w.heap.size w w' ∧ ∃ W, Turned (fun k => k = w.heap.size + 1 ∨ k = w.heap.size + 2) W w' ∧ ((∃ v, e = .returned (.tuple #[v, .int .i64 0]) ∧ R v W) ∨ ∃ n, e = .returned (.tuple #[.slice none 0 0, .int .i64 n]) ∧ Rx n W)
set_option maxRecDepth 100000 in
set_option maxHeartbeats 1000000 in
theorem answeredC_any (k : Nat) (caps : Array Value) (w : World) (R : Value → World → Prop) (Rx : Int → World → Prop) (eg : ∀ args w, (callFunc k args).run Tryz.prog w = .ok (.enter k args) w)
    (hdo : ∀ wE, Below w.heap.size w wE → (wE.heap.size = w.heap.size + 3 ∧ wE.heap[w.heap.size + 1]? = some (.cells #[.slice none 0 0] 22 (0, 0)) ∧ wE.heap[w.heap.size + 2]? = some (.cells #[.int .i64 0] 25 (0, 0))) → Calls Tryz.prog k caps wE (AnsC R Rx wE)) :
    Calls Tryz.prog 49 #[.func (.func k) #[] caps] w (AnswC R Rx w) := by
  obtain ⟨wb, hwb⟩ : ∃ wb, wb = (w.alloc (.cells #[.func (.func k) #[] caps] 114)).alloc (.cells #[.slice none 0 0] 22) := ⟨_, rfl⟩
  have hsb : wb.heap.size = w.heap.size + 2 := by rw [hwb]; simp
  have h0 : wb.heap[w.heap.size]? = some (.cells #[.func (.func k) #[] caps] 114 (0, 0)) := by
    rw [hwb]
    exact (Below.heap_alloc _ _ _ (by simp only [World.size_alloc]; omega)).trans (World.alloc_heap_new w _)
  have h1 : wb.heap[w.heap.size + 1]? = some (.cells #[.slice none 0 0] 22 (0, 0)) := by
    rw [hwb]
    have n1 := World.alloc_heap_new (w.alloc (.cells #[.func (.func k) #[] caps] 114)) (.cells #[.slice none 0 0] 22)
    simp only [World.size_alloc] at n1
    exact n1
  have hbb : Below w.heap.size w wb := by
    rw [hwb]
    exact ((Below.refl _ _).alloc (Nat.le_refl _) _).alloc (by simp) _
  obtain ⟨wE, hwE⟩ : ∃ wE, wE = wb.alloc (.cells #[.int .i64 0] 25) := ⟨_, rfl⟩
  have hbE : Below wb.heap.size wb wE := by rw [hwE]; exact below_new wb _
  have hE : wE.heap[wb.heap.size]? = some (.cells #[.int .i64 0] 25 (0, 0)) := by rw [hwE]; exact World.alloc_heap_new wb _
  have hsE : wE.heap.size = w.heap.size + 3 := by rw [hwE, World.size_alloc, hsb]
  have hB := hbb.trans (hbE.mono hbb.size)
  have k0 := (hbE.block _ (Array.getElem?_eq_some_iff.1 h0).1).trans h0
  have k1 := (hbE.block _ (Array.getElem?_eq_some_iff.1 h1).1).trans h1
  have h1w := answ1C_any k caps w.heap.size (w.heap.size + 1) wb.heap.size wE R Rx eg k0 k1 hE (by omega) (hdo wE hB ⟨hsE, k1, by rw [← hsb]; exact hE⟩)
  have HT := Lib.hid (tried_any 109 #[.pointer (some ⟨w.heap.size, 0, none⟩), .pointer (some ⟨w.heap.size + 1, 0, none⟩)] wb (fun W' => ∃ W v, R v W ∧ (∃ p n c, v = .slice p n c) ∧ W' = W.setCell ⟨w.heap.size + 1, 0, none⟩ v ∧ Below wE.heap.size wE W) (fun n W' => Rx n W' ∧ Below wE.heap.size wE W') (enters_of Tryz.func109 (by kernel_rfl) rfl) (by rw [← hwE]; exact h1w))
  have HK1 := Lib.hid k1
  have HE := Lib.hid hE
  have HB := Lib.hid hB
  have HSz := Lib.hid (And.intro hsb hsE)
  clear h1w hdo k0 k1 hE hB h0 h1 hbb hbE hwE eg
  go_enter Tryz.func49, Tryz.ntmps49
  go_wp2_with fail
  rw [← hwb]
  clear hwb hsb hsE
  refine HT.out.mono ?_
  rintro e W ⟨W1, n, ⟨rfl, W0, v, hv, hs, rfl, hb⟩ | ⟨hx, hb⟩, rfl, rfl⟩
  · have hr0 := (hb.block _ (Array.getElem?_eq_some_iff.1 HK1.out).1).trans HK1.out
    have hr1 := set_kept (B := wb.heap.size) (u := .int .i64 0) (set_new (u := v) hr0) (by have := HSz.out.1; omega)
    have hr2 := set_new (u := v) hr1
    obtain ⟨c1, f1⟩ := cell_at hr1
    have c2 := (cell_at hr2).1
    have HV := Lib.hid hv
    have HB0 := Lib.hid hb
    obtain ⟨p, n, c, rfl⟩ := hs
    clear hv hb hr0 hr1 hr2 HT
    go_wp2_with fail
    refine bodyPost_ret (v := .tuple #[(.slice p n c), .int .i64 0]) (by simp [results, Tryz.results49, go_sem, c2]) rfl ?_
    have t1 := turned_setCell W0 (w.heap.size + 1) (.slice p n c)
    have t2 := turned_setCell (W0.setCell ⟨w.heap.size + 1, 0, none⟩ (.slice p n c)) wb.heap.size (.int .i64 0)
    have t3 := turned_setCell ((W0.setCell ⟨w.heap.size + 1, 0, none⟩ (.slice p n c)).setCell ⟨wb.heap.size, 0, none⟩ (.int .i64 0)) (w.heap.size + 1) (.slice p n c)
    have hz := HSz.out
    have tt := ((t1.mono (Z := fun k => k = w.heap.size + 1 ∨ k = w.heap.size + 2) (fun k e => .inl e)).trans t2 (fun k _ e => .inr (by have e1 : k = wb.heap.size := e; omega))).trans t3 (fun k _ e => .inl e)
    have hbw := HB.out.trans (HB0.out.mono HB.out.size)
    exact ⟨hbw.trans (tt.below hbw.size (fun k e => by rcases e with e | e <;> omega)), W0, tt, .inl ⟨_, rfl, HV.out⟩⟩
  · have hr0 := (hb.block _ (Array.getElem?_eq_some_iff.1 HK1.out).1).trans HK1.out
    have hr1 := set_kept (B := wb.heap.size) (u := .int .i64 n) hr0 (by have := HSz.out.1; omega)
    have hr2 := set_new (u := .slice none 0 0) hr1
    obtain ⟨c1, f1⟩ := cell_at hr1
    have c2 := (cell_at hr2).1
    have HX := Lib.hid hx
    have HB0 := Lib.hid hb
    clear hx hb hr0 hr1 hr2 HT
    go_wp2_with fail
    refine bodyPost_ret (v := .tuple #[.slice none 0 0, .int .i64 n]) (by simp [results, Tryz.results49, go_sem, c2]) rfl ?_
    have t2 := turned_setCell W1 wb.heap.size (.int .i64 n)
    have t3 := turned_setCell (W1.setCell ⟨wb.heap.size, 0, none⟩ (.int .i64 n)) (w.heap.size + 1) (.slice none 0 0)
    have hz := HSz.out
    have tt := (t2.mono (Z := fun k => k = w.heap.size + 1 ∨ k = w.heap.size + 2) (fun k e => .inr (by have e1 : k = wb.heap.size := e; omega))).trans t3 (fun k _ e => .inl e)
    have hbw := HB.out.trans (HB0.out.mono HB.out.size)
    exact ⟨hbw.trans (tt.below hbw.size (fun k e => by rcases e with e | e <;> omega)), W1, tt, .inr ⟨n, rfl, HX.out⟩⟩
end
section
open Go Go.RowKit

/-- No run, or one that nobody opened. -/
def NoRun (w : World) (v : Value) : Prop := v = .pointer none ∨ ∃ b, v = .pointer (some ⟨b, 0, none⟩) ∧ b < w.heap.size ∧ w.cell? ⟨b, 0, none⟩ = some (.pointer none)
theorem NoRun.below {w w' : World} {v : Value} (h : NoRun w v) (hb : Below w.heap.size w w') : NoRun w' v := by
  rcases h with h | ⟨b, h, hl, hc⟩
  · exact .inl h
  · exact .inr ⟨b, h, Nat.lt_of_lt_of_le hl hb.size, (hb.cell (p := ⟨b, 0, none⟩) hl).trans hc⟩
theorem NoRun.shape {w : World} {v : Value} (h : NoRun w v) : ∃ p, v = .pointer p := by
  rcases h with rfl | ⟨b, rfl, -⟩
  · exact ⟨_, rfl⟩
  · exact ⟨_, rfl⟩
set_option maxRecDepth 100000 in
theorem rmade_no (w : World) (v : Value) (h : NoRun w v) : Says 79 #[v] w (.bool false) := by
  rcases h with rfl | ⟨b, rfl, -, hb⟩
  · go_enter Tryz.func79, Tryz.ntmps79
    go_wp2_with fail
    go_ret
    exact ⟨rfl, rfl⟩
  · have q := fun W : World => run_eql_nil_pointer W 53 _ (some ⟨b, 0, none⟩) Tryz.underlying53
    go_enter Tryz.func79, Tryz.ntmps79
    go_wp2_with fail
    go_ret
    exact ⟨rfl, rfl⟩
theorem rname_no (w : World) (v : Value) (h : NoRun w v) : Says 34 #[v] w (.string ⟨#[]⟩) := by
  have HM := Lib.hid (rmade_no w v h)
  clear h
  go_enter Tryz.func34, Tryz.ntmps34
  go_wp2_with fail
  refine HM.out.mono ?_
  rintro e w1 ⟨rfl, rfl⟩
  go_wp2_with fail
  go_ret
  exact ⟨rfl, rfl⟩
theorem rlen_no (w : World) (v : Value) (h : NoRun w v) : Says 27 #[v] w (.tuple #[.int .i64 0, .int .i64 0]) := by
  have HM := Lib.hid (rmade_no w v h)
  clear h
  go_enter Tryz.func27, Tryz.ntmps27
  go_wp2_with fail
  refine HM.out.mono ?_
  rintro e w1 ⟨rfl, rfl⟩
  go_wp2_with fail
  go_ret2
  exact ⟨rfl, rfl⟩
set_option maxRecDepth 100000 in
theorem rfind_no (w : World) (v : Value) (p : Option Addr) (n c : Nat) (h : NoRun w v) : Calls Tryz.prog 30 #[v, .slice p n c] w fun e w' => e = .returned (.int .i64 0) ∧ Below w.heap.size w w' := by
  have HB := Lib.hid (below_new w (.cells #[.slice p n c] 64))
  have HM := Lib.hid (rmade_no _ v (h.below HB.out))
  clear h
  go_enter Tryz.func30, Tryz.ntmps30
  go_wp2_with fail
  refine HM.out.mono ?_
  rintro e w1 ⟨rfl, rfl⟩
  go_wp2_with fail
  go_ret
  exact ⟨rfl, HB.out⟩
set_option maxRecDepth 100000 in
theorem spanOf_no (w : World) (v : Value) (i : Int) (h : NoRun w v) : Calls Tryz.prog 82 #[v, .int .i64 i] w fun e w' => e = .returned (.tuple #[.agg #[.int .i64 0, .int .i64 0, .slice none 0 0], .int .i64 4]) ∧ Below w.heap.size w w' := by
  have HB := Lib.hid (below_new w (.cells #[.int .i64 0, .int .i64 0, .slice none 0 0] 110))
  have HM := Lib.hid (rmade_no _ v (h.below HB.out))
  clear h
  go_enter Tryz.func82, Tryz.ntmps82
  go_wp2_with fail
  refine HM.out.mono ?_
  rintro e w1 ⟨rfl, rfl⟩
  go_wp2_with fail
  refine bodyPost_ret (v := .tuple #[.agg #[.int .i64 0, .int .i64 0, .slice none 0 0], .int .i64 4]) (by simp [results, Tryz.results82, go_sem]) rfl ⟨rfl, ?_⟩
  first | exact HB.out | (refine Below.setCells ?_ ?_) | skip
  all_goals (first | exact HB.out | simp)
/-- got, where there is an error beside a span. -/
theorem gotS_bad (v1 v2 : Int) (p : Option Addr) (m c : Nat) (n : Int) (w : World) (hn : n ≠ 0) : Calls Tryz.prog 81 #[.agg #[.int .i64 v1, .int .i64 v2, .slice p m c], .int .i64 n] w fun e w' => e = .panicked (errP n) ∧ Below w.heap.size w w' := by
  have HB := Lib.hid ((below_new w (.cells #[.int .i64 v1, .int .i64 v2, .slice p m c] 110)).alloc (by simp) (.cells #[.int .i64 0, .int .i64 0, .slice none 0 0] 110))
  go_enter Tryz.func81, Tryz.ntmps81
  go_wp2_with fail
  refine (need_bad n _ hn).mono ?_
  rintro e w1 ⟨rfl, rfl⟩
  go_wp2_with fail
  exact ⟨rfl, rfl, HB.out⟩
set_option maxRecDepth 100000 in
theorem cloneT_nil (w : World) : Says 90 #[.slice none 0 0] w (.slice none 0 0) := by
  have hnil : ∀ W : World, (binOp .eql 64 (.slice none 0 0) (.slice none 0 0)).run Tryz.prog W = .ok (.bool true) W := fun W => Lib.run_eql_slice_nil (P := Tryz.prog) W 64 92 none 0 0 0 0 Tryz.underlying64
  go_enter Tryz.func90, Tryz.ntmps90
  go_wp2_with fail
  go_ret
  exact ⟨rfl, rfl⟩
set_option maxRecDepth 100000 in
theorem rfence_no (w : World) (v : Value) (i : Int) (h : NoRun w v) : Calls Tryz.prog 33 #[v, .int .i64 i] w fun e w' => e = .returned (.tuple #[.slice none 0 0, .int .i64 4]) ∧ Below w.heap.size w w' := by
  have HS := Lib.hid (spanOf_no w v i h)
  obtain ⟨p, rfl⟩ := h.shape
  clear h
  go_enter Tryz.func33, Tryz.ntmps33
  go_wp2_with fail
  refine HS.out.mono ?_
  rintro e w1 ⟨rfl, hb⟩
  have HB := Lib.hid (hb.trans ((below_new w1 (.cells #[.int .i64 0, .int .i64 0, .slice none 0 0] 110)).mono hb.size))
  clear hb HS
  go_wp2_with fail
  refine (cloneT_nil _).mono ?_
  rintro e w2 ⟨rfl, rfl⟩
  go_wp2_with fail
  go_ret2
  exact ⟨rfl, HB.out⟩
set_option maxRecDepth 100000 in
theorem page1_no (br bi : Nat) (w : World) (v : Value) (i : Int) (h : NoRun w v) (hr : w.heap[br]? = some (.cells #[v] 53 (0, 0))) (hi : w.heap[bi]? = some (.cells #[.int .i64 i] 3 (0, 0))) (R : Value → World → Prop) :
    Calls Tryz.prog 80 #[.pointer (some ⟨br, 0, none⟩), .pointer (some ⟨bi, 0, none⟩)] w (AnsC R (fun n _ => n = 4) w) := by
  have HS := Lib.hid (spanOf_no w v i h)
  have c0 := (cell_at hr).1
  have c1 := (cell_at hi).1
  obtain ⟨p, rfl⟩ := h.shape
  clear h hr hi
  go_enter Tryz.func80, Tryz.ntmps80
  go_wp2_with fail
  refine HS.out.mono ?_
  rintro e w1 ⟨rfl, hb⟩
  have HB := Lib.hid hb
  clear hb HS c0 c1
  go_wp2_with fail
  refine (gotS_bad 0 0 none 0 0 4 _ (by decide)).mono ?_
  rintro e w2 ⟨rfl, hb⟩
  have HB2 := Lib.hid (HB.out.trans (hb.mono HB.out.size))
  clear hb
  go_wp2_with fail
  exact ⟨rfl, HB2.out, .inr ⟨4, rfl, rfl⟩⟩
set_option maxRecDepth 100000 in
theorem rpage_no (w : World) (v : Value) (i : Int) (h : NoRun w v) : Calls Tryz.prog 28 #[v, .int .i64 i] w fun e w' => e = .returned (.tuple #[.slice none 0 0, .int .i64 4]) ∧ Below w.heap.size w w' := by
  obtain ⟨wb, hwb⟩ : ∃ wb, wb = (w.alloc (.cells #[v] 53)).alloc (.cells #[.int .i64 i] 3) := ⟨_, rfl⟩
  have hbb : Below w.heap.size w wb := by
    rw [hwb]
    exact ((Below.refl _ _).alloc (Nat.le_refl _) _).alloc (by simp) _
  have h0 : wb.heap[w.heap.size]? = some (.cells #[v] 53 (0, 0)) := by
    rw [hwb]
    exact (Below.heap_alloc _ _ _ (by simp only [World.size_alloc]; omega)).trans (World.alloc_heap_new w _)
  have h1 : wb.heap[w.heap.size + 1]? = some (.cells #[.int .i64 i] 3 (0, 0)) := by
    rw [hwb]
    have n1 := World.alloc_heap_new (w.alloc (.cells #[v] 53)) (.cells #[.int .i64 i] 3)
    simp only [World.size_alloc] at n1
    exact n1
  have HA := Lib.hid (answeredC_any 80 #[.pointer (some ⟨w.heap.size, 0, none⟩), .pointer (some ⟨w.heap.size + 1, 0, none⟩)] wb (fun _ _ => False) (fun n _ => n = 4) (enters_of Tryz.func80 (by kernel_rfl) rfl)
    (fun wE hbE hsE => page1_no _ _ wE v i (h.below (hbb.trans (hbE.mono hbb.size))) ((hbE.block _ (Array.getElem?_eq_some_iff.1 h0).1).trans h0) ((hbE.block _ (Array.getElem?_eq_some_iff.1 h1).1).trans h1) _))
  have HB := Lib.hid hbb
  obtain ⟨p, rfl⟩ := h.shape
  clear h h0 h1 hbb
  go_enter Tryz.func28, Tryz.ntmps28
  go_wp2_with fail
  rw [← hwb]
  clear hwb
  refine HA.out.mono ?_
  rintro e w2 ⟨hb, W, ht, ⟨u, -, hu⟩ | ⟨n, rfl, rfl⟩⟩
  · exact hu.elim
  · have HB2 := Lib.hid (HB.out.trans (hb.mono HB.out.size))
    clear hb ht HA
    go_wp2_with fail
    go_ret2
    exact ⟨rfl, HB2.out⟩
end
end Go.Proofs.YtdjhfcopnhcljaaGreatDoor
