/-
  Contracts of crc.New and of an adder's methods.
-/
import Derived.Test.YteaeiejkdnbcnaaDoorCrN
namespace Go.Proofs.YteaeiejkdnbcnaaDoor
open Go Go.RowKit

/-- Block A is an adder. -/
def AddAt (w : World) (A : Nat) (made : Bool) (s : Reg) (n : Nat) : Prop := w.heap[A]? = some (.cells #[.bool made, regV s, .int .i64 (n : Nat)] 54 (0, 0))
/-- Nothing that was there has turned but block A. -/
def KeepA (A : Nat) (w w' : World) : Prop := w.grownBy w' (some A)
theorem keepA_refl (A : Nat) (w : World) : KeepA A w w := ⟨rfl, rfl, rfl, Nat.le_refl _, fun _ _ _ => rfl⟩
theorem keepA_set (w : World) (A j : Nat) (u : Value) : KeepA A w (w.setCell ⟨A, j, none⟩ u) :=
  ⟨rfl, rfl, rfl, by simp, fun k _ hk => heap_setCell_other w ⟨A, j, none⟩ k u (fun e => hk (by simp [e]))⟩
theorem KeepA.trans {A : Nat} {a b c : World} (h : KeepA A a b) (h' : KeepA A b c) : KeepA A a c := by
  exact ⟨h'.os.trans h.os, h'.tape.trans h.tape, h'.output.trans h.output, Nat.le_trans h.size h'.size, fun k hk hne => (h'.block k (Nat.lt_of_lt_of_le hk h.size) hne).trans (h.block k hk hne)⟩
theorem KeepA.below {A n : Nat} {w0 w w' : World} (hb : Below n w0 w) (h : KeepA A w w') (hA : n ≤ A) (hn : n ≤ w.heap.size) : Below n w0 w' :=
  hb.grown h hn (fun k hk => by simp at hk; omega)
theorem AddAt.lt {w : World} {A : Nat} {m : Bool} {s : Reg} {n : Nat} (h : AddAt w A m s n) : A < w.heap.size := (Array.getElem?_eq_some_iff.1 h).1
theorem AddAt.below {w w' : World} {A : Nat} {m : Bool} {s : Reg} {n : Nat} (h : AddAt w A m s n) (hb : Below w.heap.size w w') : AddAt w' A m s n := (hb.block A h.lt).trans h
theorem AddAt.cells {w : World} {A : Nat} {m : Bool} {s : Reg} {n : Nat} (h : AddAt w A m s n) :
    (w.cell? ⟨A, 0, none⟩ = some (.bool m) ∧ w.cell? ⟨A, 1, none⟩ = some (regV s) ∧ w.cell? ⟨A, 2, none⟩ = some (.int .i64 (n : Nat))) ∧ (∀ j, w.frozen? ⟨A, j, none⟩ = false) :=
  ⟨⟨cell_of_row w A 0 _ _ (0, 0) h, cell_of_row w A 1 _ _ (0, 0) h, cell_of_row w A 2 _ _ (0, 0) h⟩, fun j => frozen_of_row w A j _ _ h⟩
/-- Bytes that lie in another block than A. -/
def BytX (A n₀ : Nat) (w : World) (p : Option Addr) (c : Nat) (l : List UInt8) : Prop := BytIn n₀ w (.slice p l.length c) l ∧ (l ≠ [] → ∀ a, p = some a → a.block ≠ A)
theorem BytX.keep {A n₀ : Nat} {w w' : World} {p : Option Addr} {c : Nat} {l : List UInt8} (h : BytX A n₀ w p c l) (hk : KeepA A w w') (hn : n₀ ≤ w.heap.size) : BytX A n₀ w' p c l := by
  refine ⟨?_, h.2⟩
  rcases h.1 with h1 | ⟨a, cap, e, h1⟩
  · exact .inl h1
  · refine .inr ⟨a, cap, e, fun j hj => ?_⟩
    obtain ⟨h2, h3⟩ := h1 j hj
    refine ⟨h2, ?_⟩
    injection e with e1
    have hne := h.2 (fun e => by rw [e] at hj; simp at hj) a e1
    have hblk := hk.block a.block (by omega) (fun e => hne (by simpa using e))
    exact (World.cell?_of_block (a := a.add j) (by rw [add_block]; exact hblk)).trans h3
theorem new_any (w : World) : Calls Tryd.prog 27 #[] w fun e w' => e = .returned (.pointer (some ⟨w.heap.size, 0, none⟩)) ∧ AddAt w' w.heap.size true 0#32 0 ∧ Below w.heap.size w w' := by
  go_enter Tryd.func27, Tryd.ntmps27
  go_wp2_with fail
  go_ret
  exact ⟨rfl, heap_alloc_new w _, (Below.refl _ _).alloc (Nat.le_refl _) _⟩
set_option maxHeartbeats 1000000 in
set_option maxRecDepth 100000 in
theorem asum_any (w : World) (A : Nat) (m : Bool) (s : Reg) (n : Nat) (h : AddAt w A m s n) : Calls Tryd.prog 29 #[.pointer (some ⟨A, 0, none⟩)] w fun e w' => e = .returned (regV s) ∧ w = w' := by
  obtain ⟨⟨-, c1, -⟩, -⟩ := h.cells
  clear h
  go_enter Tryd.func29, Tryd.ntmps29
  go_wp2_with fail
  go_ret
  exact ⟨rfl, rfl⟩
set_option maxHeartbeats 1000000 in
set_option maxRecDepth 100000 in
theorem alen_any (w : World) (A : Nat) (m : Bool) (s : Reg) (n : Nat) (h : AddAt w A m s n) : Calls Tryd.prog 30 #[.pointer (some ⟨A, 0, none⟩)] w fun e w' => e = .returned (.int .i64 (n : Nat)) ∧ w = w' := by
  obtain ⟨⟨-, -, c1⟩, -⟩ := h.cells
  clear h
  go_enter Tryd.func30, Tryd.ntmps30
  go_wp2_with fail
  go_ret
  exact ⟨rfl, rfl⟩
theorem extL_append (s : Reg) (l m : List UInt8) : extL s (l ++ m) = extL (extL s l) m := by unfold extL; rw [BitVec.not_not, regL_append]
theorem AddAt.set {w : World} {A : Nat} {s : Reg} {n : Nat} (h : AddAt w A true s n) (s' : Reg) (n' : Int) (k : Nat) (hk : n' = (k : Int)) :
    AddAt ((w.setCell ⟨A, 1, none⟩ (regV s')).setCell ⟨A, 2, none⟩ (.int .i64 n')) A true s' k := by
  subst hk
  exact heap_setCell_same _ A 2 _ _ _ (heap_setCell_same w A 1 _ _ _ h)
/-- A row of byte slices, outside of block A. -/
def Parts (A : Nat) (w : World) (b : Nat) (L : List (List UInt8)) : Prop :=
  b < w.heap.size ∧ b ≠ A ∧ ∀ j (h : j < L.length), ∃ p c, w.cell? ⟨b, j, none⟩ = some (.slice p L[j].length c) ∧ BytX A w.heap.size w p c L[j]
set_option maxHeartbeats 1000000 in
set_option maxRecDepth 100000 in
theorem add_any (w : World) (A b : Nat) (s : Reg) (n : Nat) (L : List (List UInt8)) (h : AddAt w A true s n) (hp : Parts A w b L) (hL : L.length ≤ 1000) (hn : n + L.flatten.length ≤ 90000000000000) (G : Glob w) (hA : 0 ≠ A) :
    Calls Tryd.prog 28 #[.pointer (some ⟨A, 0, none⟩), .slice (some ⟨b, 0, none⟩) L.length L.length] w fun e w' => e = .returned (.tuple #[]) ∧ AddAt w' A true (extL s L.flatten) (n + L.flatten.length) ∧ KeepA A w w' := by
  have H := Lib.hid h
  obtain ⟨⟨c0, -, -⟩, -⟩ := h.cells
  have HP := Lib.hid hp
  have HN := Lib.hid hn
  have HG := Lib.hid G
  clear h hp hn G
  have hL2 : (L.length : Int) ≤ 1000 := by omega
  go_enter Tryd.func28, Tryd.ntmps28
  go_wp2_with fail
  clear c0
  go_loopw [5, 17] (fun _ i wr => ∃ k : Nat, k ≤ L.length ∧ i = .int .i64 k ∧ Hid (AddAt wr A true (extL s (L.take k).flatten) (n + (L.take k).flatten.length) ∧ KeepA A w wr)) (fun _ i _ => L.length - (intOf i).toNat)
  case atStart => exact ⟨0, Nat.zero_le _, rfl, Lib.hid ⟨by simpa [extL, regL] using H.out, keepA_refl _ _⟩⟩
  case round =>
    obtain ⟨k, hk, rfl, HR⟩ := hrel
    by_cases hlt : k < L.length
    · obtain ⟨s1, HS1⟩ : ∃ s1, Hid (s1 = extL s (L.take k).flatten) := ⟨_, Lib.hid rfl⟩
      obtain ⟨n1, HN1⟩ : ∃ n1, Hid (n1 = n + (L.take k).flatten.length) := ⟨_, Lib.hid rfl⟩
      obtain ⟨m, HM⟩ : ∃ m, Hid (m = L[k]) := ⟨_, Lib.hid rfl⟩
      have HA : Hid (AddAt wr A true s1 n1) := Lib.hid (by rw [HS1.out, HN1.out]; exact HR.out.1)
      obtain ⟨⟨c0, c1, c2⟩, hf⟩ := HA.out.cells
      have HTk : Hid ((L.take (k + 1)).flatten = (L.take k).flatten ++ m) := Lib.hid (by rw [List.take_succ_eq_append_getElem hlt, List.flatten_append, HM.out]; simp)
      have hlen : n1 + m.length ≤ 90000000000000 := by
        have h1 := HN.out
        have h2 : L.flatten = (L.take (k + 1)).flatten ++ (L.drop (k + 1)).flatten := by rw [← List.flatten_append, List.take_append_drop]
        rw [h2, HTk.out, List.length_append, List.length_append] at h1
        have := HN1.out
        omega
      obtain ⟨p, c, hc, HX⟩ : ∃ p c, w.cell? ⟨b, k, none⟩ = some (.slice p m.length c) ∧ Hid (BytX A w.heap.size w p c m) := by
        obtain ⟨p, c, h1, h2⟩ := HP.out.2.2 k hlt
        rw [← HM.out] at h1 h2
        exact ⟨p, c, h1, Lib.hid h2⟩
      have hc' : wr.cell? ⟨b, k, none⟩ = some (.slice p m.length c) := by
        rw [← hc]
        exact World.cell?_of_block (HR.out.2.block b HP.out.1 (fun e => HP.out.2.1 (by simpa using e)))
      clear hc
      have HX2 := Lib.hid (HX.out.keep HR.out.2 (Nat.le_refl _))
      have HGr : Hid (Glob wr) := Lib.hid ⟨by
        have := HG.out.tab
        unfold Lib.TabIs World.var? at this ⊢
        rw [gTab] at this ⊢
        simp only [Option.bind_some] at this ⊢
        rw [HR.out.2.block _ HG.out.big (fun e => hA (by simpa using e))]
        exact this, Nat.lt_of_lt_of_le HG.out.big HR.out.2.size⟩
      have f1 := hf 1
      have f2 := hf 2
      have b1 : (n1 : Int) + (m.length : Int) ≤ 90000000000000 := by omega
      have b2 : (0 : Int) ≤ (n1 : Int) + (m.length : Int) := by omega
      clear hf
      go_wp2_with fail
      refine (ext_any s1 _ m _ (HX2.out.1.mono HR.out.2.size) (by omega) HGr.out).mono ?_
      rintro e w' ⟨rfl, rfl⟩
      have HE : Hid (AddAt ((wr.setCell ⟨A, 1, none⟩ (regV (extL s1 m))).setCell ⟨A, 2, none⟩ (.int .i64 ((n1 : Int) + (m.length : Int)))) A true (extL s (L.take (k + 1)).flatten) (n + (L.take (k + 1)).flatten.length)) := Lib.hid (by
        have h1 := HA.out.set (extL s1 m) ((n1 : Int) + (m.length : Int)) (n1 + m.length) (by omega)
        rw [HTk.out, extL_append, ← HS1.out, List.length_append, ← Nat.add_assoc, ← HN1.out]
        exact h1)
      have HK : Hid (KeepA A w ((wr.setCell ⟨A, 1, none⟩ (regV (extL s1 m))).setCell ⟨A, 2, none⟩ (.int .i64 ((n1 : Int) + (m.length : Int))))) := Lib.hid ((HR.out.2.trans (keepA_set _ _ _ _)).trans (keepA_set _ _ _ _))
      go_wp2_with fail
      go_roundw
      case rel => exact ⟨k + 1, by omega, by go_num, Lib.hid ⟨HE.out, HK.out⟩⟩
      case measure => simp [intOf]; omega
    · have HE : Hid (AddAt wr A true (extL s L.flatten) (n + L.flatten.length) ∧ KeepA A w wr) := Lib.hid (by
        have h := HR.out
        rwa [List.take_of_length_le (by omega)] at h)
      go_wp2_with fail
      go_end0
      exact ⟨rfl, HE.out.1, HE.out.2⟩
set_option maxHeartbeats 1000000 in
set_option maxRecDepth 100000 in
theorem add_nil (w : World) (v : Value) : Calls Tryd.prog 28 #[.pointer none, v] w fun e w' => e = .returned (.tuple #[]) ∧ w = w' := by
  go_enter Tryd.func28, Tryd.ntmps28
  go_wp2_with fail
  exact bodyPost_ret (results_none rfl _ _ _) rfl ⟨rfl, rfl⟩
set_option maxHeartbeats 1000000 in
set_option maxRecDepth 100000 in
theorem add_unmade (w : World) (A : Nat) (s : Reg) (n : Nat) (v : Value) (h : AddAt w A false s n) : Calls Tryd.prog 28 #[.pointer (some ⟨A, 0, none⟩), v] w fun e w' => e = .returned (.tuple #[]) ∧ w = w' := by
  obtain ⟨⟨c0, -, -⟩, -⟩ := h.cells
  clear h
  go_enter Tryd.func28, Tryd.ntmps28
  go_wp2_with fail
  exact bodyPost_ret (results_none rfl _ _ _) rfl ⟨rfl, rfl⟩
set_option maxHeartbeats 1000000 in
set_option maxRecDepth 100000 in
theorem asum_nil (w : World) : Calls Tryd.prog 29 #[.pointer none] w fun e w' => e = .returned (.int .u32 0) ∧ w = w' := by
  go_enter Tryd.func29, Tryd.ntmps29
  go_wp2_with fail
  go_ret
  exact ⟨rfl, rfl⟩
set_option maxHeartbeats 1000000 in
set_option maxRecDepth 100000 in
theorem alen_nil (w : World) : Calls Tryd.prog 30 #[.pointer none] w fun e w' => e = .returned (.int .i64 0) ∧ w = w' := by
  go_enter Tryd.func30, Tryd.ntmps30
  go_wp2_with fail
  go_ret
  exact ⟨rfl, rfl⟩
end Go.Proofs.YteaeiejkdnbcnaaDoor
