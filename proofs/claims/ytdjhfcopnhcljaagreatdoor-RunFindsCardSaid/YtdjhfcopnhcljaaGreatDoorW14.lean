/-
  Contract of pack.taken at tuples: a reading that panics is told as an error.
  Plain facts on the reading of keys: the program's reading, with its limits as it goes, and the document's, with its limits at the end. No program is named here.
  Contract of pack's reading of an int of a key.
-/
import Derived.Test.YtdjhfcopnhcljaaGreatDoorW13
import Derived.Test.YtdjhfcopnhcljaaGreatDoorW09
import Derived.Defers
import Derived.Recover
import Derived.Laws.Pointers
import Derived.RegionTactic
import Derived.BigRegion
import Derived.Test.YtdjhfcopnhcljaaGreatDoorW01
namespace Go.Proofs.YtdjhfcopnhcljaaGreatDoor
section
open Go Go.RowKit

/-- What a reading answers: what the bytes begin with, or it panics; nothing that was there has turned but block R. -/
def ReadEnd {α : Type} (val : α → World → Value → Prop) (n₀ R : Nat) (o : Option (α × List UInt8)) (w : World) (e : Ending) (w' : World) : Prop :=
  KeepR R w w' ∧ ((∃ x r v, o = some (x, r) ∧ e = .returned v ∧ val x w' v ∧ RestAt n₀ w' R r) ∨ (o = none ∧ e = .panicked badP))

/-- The deferred closure, where the frame panics. -/
theorem catch_bad (p : Addr) (x : Int) (w : World) (hc : w.cell? p = some (.int .i64 x)) (hz : w.frozen? p = false) :
    CallsD Tryz.prog 209 #[.pointer (some p)] (.panicking badP) w fun e u' w' =>
      e = .returned (.tuple #[]) ∧ u' = .panicking [{ v := .iface 25 (.int .i64 30), recovered := true }] ∧ w' = w.setCell p (.int .i64 30) := by
  refine callsD_of_wpS Tryz.func209 rfl fun c₀ cs hu => ?_
  apply wpS_seq
  apply wpS_region
  simp [wpOpsS, go_sem, recoverD, hu, badP, Tryz.ntmps209, Exit.thenS]
  refine wpS_cond (t := true) (by simp [Act.eval, Array.replicate]) ?_
  simp only [if_true]
  apply wpS_region
  simp [wpOpsS, go_sem, hc, hz, bodyPostS, results, Tryz.results209]
/-- The deferred closure, where the frame returns. -/
theorem catch_idle (p : Addr) (w : World) :
    CallsD Tryz.prog 209 #[.pointer (some p)] .returning w fun e u' w' => e = .returned (.tuple #[]) ∧ u' = .returning ∧ w' = w := by
  refine callsD_of_wpS Tryz.func209 rfl fun c₀ cs hu => ?_
  apply wpS_seq
  apply wpS_region
  simp [wpOpsS, go_sem, recoverD, hu, Tryz.ntmps209, Exit.thenS]
  refine wpS_cond (t := false) (by simp [Act.eval, Array.replicate]) ?_
  simp only [Bool.false_eq_true, if_false]
  refine wpS_of_wp (wp_skip ?_)
  cases c₀
  simp_all [bodyPostS, results, Tryz.results209]

/-- What taken answers at tuples. -/
def TakenEnd (l : List UInt8) (o : Option (List V3 × List UInt8)) (w : World) (e : Ending) (w' : World) : Prop :=
  Below w.heap.size w w' ∧ ((∃ T r v, o = some (T, r) ∧ e = .returned (.tuple #[v, .int .i64 ((l.length : Int) - (r.length : Int)), .int .i64 0]) ∧ OwnR w.heap.size w' v T) ∨ (o = none ∧ e = .returned (.tuple #[.slice none 0 0, .int .i64 0, .int .i64 30])))
theorem start_rest (w : World) (p : Option Addr) (cap : Nat) (l : List UInt8) (h1 : l.length ≤ cap) (h2 : cap ≤ maxLen) (hb : BytIn w.heap.size w (.slice p l.length cap) l) (o : Obj) :
    RestAt w.heap.size ((w.alloc o).alloc (.cells #[.slice p l.length cap] 263)) (w.heap.size + 1) l := by
  refine ⟨by omega, p, cap, ?_, h1, h2, hb.below (((Below.refl _ _).alloc (Nat.le_refl _) _).alloc (by simp) _)⟩
  have h := heap_alloc_new (w.alloc o) (.cells #[.slice p l.length cap] 263)
  rw [show (w.alloc o).heap.size = w.heap.size + 1 by simp] at h
  exact h
/-- The error's variable is as it was laid. -/
theorem err_set (w w1 : World) (o : Obj) (hk : KeepR (w.heap.size + 1) ((w.alloc (.cells #[.int .i64 0] 25)).alloc o) w1) (u : Value) : (w1.setCell ⟨w.heap.size, 0, none⟩ u).cell? ⟨w.heap.size, 0, none⟩ = some u := by
  have h0 : ((w.alloc (.cells #[.int .i64 0] 25)).alloc o).heap[w.heap.size]? = some (.cells #[.int .i64 0] 25 (0, 0)) :=
    (Below.heap_alloc _ o _ (by simp)).trans (heap_alloc_new w _)
  have h1 := (hk.block w.heap.size (by simp; omega) (by simp)).trans h0
  have h2 := heap_setCell_same w1 w.heap.size 0 #[.int .i64 0] _ u h1
  exact cell_of_row _ _ 0 _ _ (0, 0) h2
theorem below_read (w w1 : World) (o o' : Obj) (hk : KeepR (w.heap.size + 1) ((w.alloc o).alloc o') w1) : Below w.heap.size w w1 :=
  (((Below.refl w.heap.size w).alloc (Nat.le_refl _) o).alloc (by simp) o').grown hk (by simp; omega) (fun k hk => by injection hk with hk; omega)
theorem OwnR.mono {B B' : Nat} {w : World} {v : Value} {T : List V3} (h : OwnR B w v T) (hB : B' ≤ B) : OwnR B' w v T := by
  refine ⟨h.1, ?_⟩
  rcases h.2 with hn | ⟨g, cap, cur, rfl, hB', rest⟩
  · exact .inl hn
  · exact .inr ⟨g, cap, cur, rfl, by omega, rest⟩
theorem OwnR.set {B : Nat} {w : World} {v : Value} {T : List V3} (h : OwnR B w v T) {a : Addr} (ha : a.block < B) (u : Value) : OwnR B (w.setCell a u) v T := ownsRow_setCell_below h ha u
theorem err_cell (w w1 : World) (o : Obj) (hk : KeepR (w.heap.size + 1) ((w.alloc (.cells #[.int .i64 0] 25)).alloc o) w1) : w1.cell? ⟨w.heap.size, 0, none⟩ = some (.int .i64 0) ∧ w1.frozen? ⟨w.heap.size, 0, none⟩ = false := by
  have h0 : ((w.alloc (.cells #[.int .i64 0] 25)).alloc o).heap[w.heap.size]? = some (.cells #[.int .i64 0] 25 (0, 0)) :=
    (Below.heap_alloc _ o _ (by simp)).trans (heap_alloc_new w _)
  have h1 := (hk.block w.heap.size (by simp; omega) (by simp)).trans h0
  exact ⟨cell_of_row w1 _ 0 _ _ (0, 0) h1, frozen_of_row w1 _ 0 _ _ h1⟩
set_option maxHeartbeats 1000000 in
set_option maxRecDepth 100000 in
theorem taken_any (v : Value) (l : List UInt8) (o : Option (List V3 × List UInt8)) (w : World) (hb : BytIn w.heap.size w v l) (hs : ∃ p cap, v = .slice p l.length cap ∧ l.length ≤ cap ∧ cap ≤ maxLen)
    (hread : ∀ W R, RestAt w.heap.size W R l → w.heap.size + 2 ≤ W.heap.size → Calls Tryz.prog 197 #[.pointer (some ⟨R, 0, none⟩)] W (ReadEnd (fun T W' v => OwnR (w.heap.size + 2) W' v T) w.heap.size R o W)) :
    Calls Tryz.prog 196 #[v, .func (.func 197) #[] #[]] w (TakenEnd l o w) := by
  have HB := Lib.hid hb
  have HR := Lib.hid hread
  clear hb hread
  obtain ⟨p, cap, rfl, h1, h2⟩ := hs
  have hmf : ∀ (fn : Fn) (first cap : Array Value) (w : World), (Instr.makeFunc fn first cap).run Tryz.prog w = .ok (.func fn first cap) w := fun _ _ _ _ => rfl
  go_enter_defers Tryz.func196, Tryz.ntmps196
  go_wp2_with fail
  refine (HR.out _ (w.heap.size + 1) (start_rest w p cap l h1 h2 HB.out _) (by simp)).mono ?_
  rintro e w1 ⟨hk, ⟨T, r, vt, rfl, rfl, ho, hr⟩ | ⟨rfl, rfl⟩⟩
  · have HO := Lib.hid ho
    have HK := Lib.hid hk
    have HRR := Lib.hid hr
    have HE := Lib.hid (err_cell w w1 _ hk)
    clear ho hk hr
    obtain ⟨-, p', cap', hbl, hlc, hcm, -⟩ := HRR.out
    have c1 : w1.cell? ⟨w.heap.size + 1, 0, none⟩ = some (.slice p' r.length cap') := cell_of_row w1 _ 0 _ _ (0, 0) hbl
    obtain ⟨c0, f0⟩ := HE.out
    clear hbl
    unfold maxLen at hcm h2
    have b1 : (l.length : Int) ≤ 9223372036854775807 := by omega
    have b2 : (r.length : Int) ≤ 9223372036854775807 := by omega
    have b3 : (0 : Int) ≤ (l.length : Int) := by omega
    have b4 : (0 : Int) ≤ (r.length : Int) := by omega
    go_wp2_with fail
    go_region
    all_goals
      go_wp2_with fail
      refine leaves_cons (f := 209) (args := #[.pointer (some ⟨w.heap.size, 0, none⟩)]) (by simp) (by simp [go_sem]) ?_
      refine (catch_idle ⟨w.heap.size, 0, none⟩ _).mono ?_
      rintro e u' w'' ⟨rfl, rfl, rfl⟩
      have cs := err_set w w1 _ HK.out
      simp [Leaves, settle, results, Tryz.results196, go_sem, cs]
      refine ⟨((below_read w w1 _ _ HK.out).setCell (Nat.le_refl _) _).drew, .inl ⟨T, r, vt, rfl, rfl, ?_⟩⟩
      exact (HO.out.set (by simp) _).mono (by omega)
  · have HK := Lib.hid hk
    have HE := Lib.hid (err_cell w w1 _ hk)
    clear hk
    obtain ⟨c0, f0⟩ := HE.out
    go_wp2_with fail
    refine leaves_cons (f := 209) (args := #[.pointer (some ⟨w.heap.size, 0, none⟩)]) (by simp) (by simp [go_sem]) ?_
    refine (catch_bad ⟨w.heap.size, 0, none⟩ 0 w1 c0 f0).mono ?_
    rintro e u' w'' ⟨rfl, rfl, rfl⟩
    have cs := err_set w w1 _ HK.out
    simp [Leaves, settle, results, Tryz.results196, go_sem, cs]
    exact ⟨(below_read w w1 _ _ HK.out).setCell (Nat.le_refl _) _, .inr ⟨rfl, rfl⟩⟩
end
section
open Go

/-- The number that bytes spell, the highest first. -/
def beN (l : List UInt8) : Nat := l.foldl (fun x c => x * 256 + c.toNat) 0
theorem beN_snoc (l : List UInt8) (c : UInt8) : beN (l ++ [c]) = beN l * 256 + c.toNat := by simp [beN]
theorem beN_lt (l : List UInt8) : beN l < 256 ^ l.length := by
  suffices h : ∀ r : List UInt8, beN r.reverse < 256 ^ r.length by simpa using h l.reverse
  intro r
  induction r with
  | nil => simp [beN]
  | cons c r ih =>
    rw [List.reverse_cons, beN_snoc, List.length_cons, Nat.pow_succ]
    have := c.toNat_lt
    omega
def intV (l : List UInt8) : V3 := ⟨1, (beN (l.take 8) : Int) - 9223372036854775808, ⟨#[]⟩⟩
def symV (s : List UInt8) : V3 := ⟨2, 0, ⟨s.toArray⟩⟩
/-- A symbol's bytes, and what stands behind their end: with at most 256 of them. -/
def symP : List UInt8 → List UInt8 → Option (List UInt8 × List UInt8)
  | [], _ => none
  | [_], _ => none
  | c :: d :: r, acc =>
    if c = 0 then (if d = 1 then some (acc, r) else if d = 255 then (if acc.length = 256 then none else symP r (acc ++ [0])) else none)
    else if acc.length = 256 then none else symP (d :: r) (acc ++ [c])
/-- The same without a limit. -/
def symR : List UInt8 → List UInt8 → Option (List UInt8 × List UInt8)
  | [], _ => none
  | [_], _ => none
  | c :: d :: r, acc =>
    if c = 0 then (if d = 1 then some (acc, r) else if d = 255 then symR r (acc ++ [0]) else none) else symR (d :: r) (acc ++ [c])
theorem symR_len : ∀ (l acc s r : List UInt8), symR l acc = some (s, r) → r.length ≤ l.length ∧ acc.length ≤ s.length
  | [], _, _, _ => fun h => by simp [symR] at h
  | [_], _, _, _ => fun h => by simp [symR] at h
  | c :: d :: l, acc, s, r => fun h => by
    rw [symR] at h
    split at h
    · split at h
      · simp at h; obtain ⟨rfl, rfl⟩ := h; exact ⟨by simp; omega, Nat.le_refl _⟩
      · split at h
        · have := symR_len l _ s r h
          simp at this ⊢; omega
        · cases h
    · have := symR_len (d :: l) _ s r h
      simp at this ⊢; omega
theorem symP_eq : ∀ (l acc : List UInt8), acc.length ≤ 256 → symP l acc = match symR l acc with | some (s, r) => if s.length ≤ 256 then some (s, r) else none | none => none
  | [], _ => fun _ => rfl
  | [_], _ => fun _ => rfl
  | c :: d :: l, acc => fun h => by
    rw [symP, symR]
    by_cases hc : c = 0
    · rw [if_pos hc, if_pos hc]
      by_cases hd : d = 1
      · rw [if_pos hd, if_pos hd]; simp [h]
      · rw [if_neg hd, if_neg hd]
        by_cases he : d = 255
        · rw [if_pos he, if_pos he]
          by_cases ha : acc.length = 256
          · rw [if_pos ha]
            cases e : symR l (acc ++ [0]) with
            | none => rfl
            | some x =>
              have := (symR_len l _ x.1 x.2 e).2
              simp at this
              simp only
              rw [if_neg (by omega)]
          · rw [if_neg ha]
            exact symP_eq l (acc ++ [0]) (by simp; omega)
        · rw [if_neg he, if_neg he]
    · rw [if_neg hc, if_neg hc]
      by_cases ha : acc.length = 256
      · rw [if_pos ha]
        cases e : symR (d :: l) (acc ++ [c]) with
        | none => rfl
        | some x =>
          have := (symR_len (d :: l) _ x.1 x.2 e).2
          simp at this
          simp only
          rw [if_neg (by omega)]
      · rw [if_neg ha]
        exact symP_eq (d :: l) (acc ++ [c]) (by simp; omega)
/-- One key. -/
def keyP : List UInt8 → Option (V3 × List UInt8)
  | [] => none
  | c :: r => if c = 1 then (if 8 ≤ r.length then some (intV r, r.drop 8) else none) else if c = 2 then (match symP r [] with | some (s, r') => some (symV s, r') | none => none) else none
/-- All keys, to the last byte. -/
def keysP : Nat → List UInt8 → List V3 → Option (List V3)
  | _, [], acc => some acc
  | 0, _ :: _, _ => none
  | f + 1, c :: r, acc => if acc.length = 8 then none else match keyP (c :: r) with | some (v, r') => keysP f r' (acc ++ [v]) | none => none
/-- The document's: no limit as it goes. -/
def rkeyP : List UInt8 → Option (V3 × List UInt8)
  | [] => none
  | c :: r => if c = 1 ∧ 8 ≤ r.length then some (intV r, r.drop 8) else if c = 2 then (match symR r [] with | some (s, r') => some (symV s, r') | none => none) else none
def rkeysP : Nat → List UInt8 → List V3 → Option (List V3)
  | _, [], acc => some acc
  | 0, _ :: _, _ => none
  | f + 1, c :: r, acc => match rkeyP (c :: r) with | some (v, r') => rkeysP f r' (acc ++ [v]) | none => none
theorem rkeyP_len {l : List UInt8} {v : V3} {r : List UInt8} (h : rkeyP l = some (v, r)) : r.length < l.length := by
  cases l with
  | nil => simp [rkeyP] at h
  | cons c l =>
    rw [rkeyP] at h
    split at h
    · simp at h; obtain ⟨-, rfl⟩ := h; simp; omega
    · split at h
      · cases e : symR l [] with
        | none => rw [e] at h; simp at h
        | some x =>
          rw [e] at h
          simp at h
          have := (symR_len l [] x.1 x.2 e).1
          obtain ⟨-, rfl⟩ := h
          simp; omega
      · cases h
theorem rkeysP_front : ∀ (f : Nat) (l : List UInt8) (acc T : List V3), rkeysP f l acc = some T → ∃ U, T = acc ++ U ∧ (l ≠ [] → U ≠ [])
  | _, [], acc, T => fun h => by simp [rkeysP] at h; exact ⟨[], by simp [h], fun h => absurd rfl h⟩
  | 0, _ :: _, _, _ => fun h => by simp [rkeysP] at h
  | f + 1, c :: l, acc, T => fun h => by
    rw [rkeysP] at h
    cases e : rkeyP (c :: l) with
    | none => rw [e] at h; cases h
    | some x =>
      rw [e] at h
      obtain ⟨U, hU, -⟩ := rkeysP_front f x.2 (acc ++ [x.1]) T h
      exact ⟨x.1 :: U, by rw [hU]; simp, fun _ => by simp⟩
/-- A value that may be. -/
def MayV (x : V3) : Prop := x.k = 1 ∧ x.s.toList = [] ∨ x.k = 2 ∧ x.n = 0 ∧ x.s.size ≤ 256
/-- A tuple that may be. -/
def MayT (T : List V3) : Prop := T.length ≤ 8 ∧ ∀ x ∈ T, MayV x
open Classical in
/-- What is read, where it may be. -/
noncomputable def okO (o : Option (List V3)) : Option (List V3) := match o with | some T => if MayT T then some T else none | none => none
theorem intV_may (l : List UInt8) : MayV (intV l) := .inl ⟨rfl, by unfold intV; rw [Lib.toList_data]⟩
theorem symV_may {s : List UInt8} (h : s.length ≤ 256) : MayV (symV s) := .inr ⟨rfl, rfl, by unfold symV; rw [Lib.size_eq]; exact h⟩
theorem symV_not {s : List UInt8} (h : ¬ s.length ≤ 256) : ¬ MayV (symV s) := by
  rintro (⟨h1, -⟩ | ⟨-, -, h1⟩)
  · exact absurd h1 (show ¬ (2 : Int) = 1 by decide)
  · unfold symV at h1; rw [Lib.size_eq] at h1; exact h h1
theorem okO_bad {f : Nat} {l : List UInt8} {acc : List V3} (h : ∀ U, (l ≠ [] → U ≠ []) → ¬ MayT (acc ++ U)) : okO (rkeysP f l acc) = none := by
  unfold okO
  cases e : rkeysP f l acc with
  | none => rfl
  | some T =>
    obtain ⟨U, rfl, hU⟩ := rkeysP_front f l acc T e
    simp only
    rw [if_neg (h U hU)]
theorem keys_eq : ∀ (f : Nat) (l : List UInt8) (acc : List V3), l.length ≤ f → (∀ x ∈ acc, MayV x) → acc.length ≤ 8 → keysP f l acc = okO (rkeysP f l acc)
  | f, [], acc => fun _ ha h8 => by
    have h1 : keysP f [] acc = some acc := by cases f <;> rfl
    have h2 : rkeysP f [] acc = some acc := by cases f <;> rfl
    rw [h1, h2]
    unfold okO
    simp only
    rw [if_pos ⟨h8, ha⟩]
  | 0, _ :: _, _ => fun h => by simp at h
  | f + 1, c :: l, acc => fun hf ha h8 => by
    rw [keysP]
    by_cases h : acc.length = 8
    · rw [if_pos h]
      refine (okO_bad fun U hU hm => ?_).symm
      have h1 := hm.1
      have h2 := List.length_pos_iff.2 (hU (by simp))
      rw [List.length_append] at h1
      omega
    · rw [if_neg h, rkeysP]
      have step : ∀ v r, r.length ≤ f → MayV v → keysP f r (acc ++ [v]) = okO (rkeysP f r (acc ++ [v])) := fun v r hr hv => keys_eq f r (acc ++ [v]) hr (fun x hx => by
        rcases List.mem_append.1 hx with hx | hx
        · exact ha x hx
        · obtain rfl := List.mem_singleton.1 hx; exact hv) (by simp; omega)
      have hl : l.length ≤ f := by simp at hf; omega
      rw [keyP, rkeyP]
      by_cases h1 : c = 1
      · rw [if_pos h1]
        by_cases hr : 8 ≤ l.length
        · rw [if_pos hr, if_pos ⟨h1, hr⟩]
          exact step _ _ (by simp; omega) (intV_may l)
        · rw [if_neg hr, if_neg (fun h => hr h.2), if_neg (by rw [h1]; decide)]
          rfl
      · rw [if_neg h1, if_neg (show ¬ (c = 1 ∧ 8 ≤ l.length) from fun h => h1 h.1)]
        by_cases h2 : c = 2
        · rw [if_pos h2, if_pos h2, symP_eq l [] (by simp)]
          cases e : symR l [] with
          | none => rfl
          | some x =>
            obtain ⟨s, r⟩ := x
            have hlen := (symR_len l [] s r e).1
            by_cases hs : s.length ≤ 256
            · simp only [if_pos hs]
              exact step _ _ (by omega) (symV_may hs)
            · simp only [if_neg hs]
              refine (okO_bad fun U _ hm => ?_).symm
              exact symV_not hs (hm.2 _ (by simp))
        · rw [if_neg h2, if_neg h2]
          rfl
end
section
open Go Go.RowKit

theorem or_step (x : Nat) (c : UInt8) (hx : x * 256 < 18446744073709551616) : bits .or .u64 ((x : Int) * 256) (c.toNat : Int) = ((x * 256 + c.toNat : Nat) : Int) := by
  have hc := c.toNat_lt
  have e : (x : Int) * 256 = ((x * 256 : Nat) : Int) := by omega
  rw [e, u64_or_nat _ _ hx (by omega)]
  have h := Nat.two_pow_add_eq_or_of_lt (i := 8) (b := c.toNat) (by omega) x
  rw [Nat.mul_comm x 256, ← h]
theorem sign_off (x : Nat) (hx : x < 18446744073709551616) : wrap64 (bits .xor .u64 (x : Int) 9223372036854775808) = (x : Int) - 9223372036854775808 := by
  rw [show (9223372036854775808 : Int) = ((9223372036854775808 : Nat) : Int) from rfl, u64_xor_nat _ _ hx (by decide), xor_sign _ hx]
  unfold wrap64
  omega
/-- What intKey reads. -/
def intP (l : List UInt8) : Option (Int × List UInt8) := if 8 ≤ l.length then some ((beN (l.take 8) : Int) - 9223372036854775808, l.drop 8) else none
set_option maxHeartbeats 1000000 in
set_option maxRecDepth 100000 in
theorem rdInt_any (n₀ R : Nat) (l : List UInt8) (w : World) (h : RestAt n₀ w R l) : Calls Tryz.prog 213 #[.pointer (some ⟨R, 0, none⟩)] w (ReadEnd (fun n _ v => v = .int .i64 n) n₀ R (intP l) w) := by
  have H := Lib.hid h
  clear h
  by_cases hl : 8 ≤ l.length
  · have HP : Hid (intP l = some ((beN (l.take 8) : Int) - 9223372036854775808, l.drop 8)) := Lib.hid (by unfold intP; rw [if_pos hl])
    go_enter Tryz.func213, Tryz.ntmps213
    go_wp2_with fail
    refine (take_yes n₀ R l 8 w H.out hl (by decide)).mono ?_
    rintro e w1 ⟨p, cap, rfl, hb, hr, hk⟩
    have HR := Lib.hid hr
    have HK := Lib.hid hk
    have hlen : (l.take 8).length = 8 := by rw [List.length_take]; omega
    have HLn := Lib.hid hlen
    rcases hb with ⟨e, -⟩ | ⟨a, c', e, hc⟩
    · injection e with e1 e2; cases e2
    injection e with e1 e2 e3
    subst e1
    have HC := Lib.hid hc
    clear hr hk hc e2 e3 hlen
    go_wp2_with fail
    go_loopw [3, 5, 11] (fun x _ i wr => ∃ k : Nat, k ≤ 8 ∧ i = .int .i64 k ∧ x = .int .u64 (beN ((l.take 8).take k) : Nat) ∧ wr = w1) (fun _ _ i _ => 8 - (intOf i).toNat)
    case atStart => exact ⟨0, by decide, rfl, rfl, rfl⟩
    case round =>
      obtain ⟨k, hk, rfl, rfl, rfl⟩ := hrel
      by_cases hlt : k < 8
      · have hlt' : (k : Int) < 8 := by omega
        have hkl : k < (l.take 8).length := by rw [HLn.out]; exact hlt
        have hcell := (HC.out k hkl).2
        have HX : Hid (beN ((l.take 8).take k) * 256 < 18446744073709551616) := Lib.hid (by
          have h1 := beN_lt ((l.take 8).take k)
          have h2 : ((l.take 8).take k).length = k := by rw [List.length_take, HLn.out]; omega
          rw [h2] at h1
          have h3 : 256 ^ k ≤ 256 ^ 7 := Nat.pow_le_pow_right (by decide) (by omega)
          have h4 : (256 : Nat) ^ 7 = 72057594037927936 := by decide
          omega)
        have hkL : k < l.length := by omega
        have hstep := or_step (beN ((l.take 8).take k)) l[k] HX.out
        have hwc : IntKind.u64.wrap (l[k].toNat : Int) = (l[k].toNat : Int) := by rw [wrap_u64']; have := l[k].toNat_lt; omega
        have HS : Hid (beN ((l.take 8).take (k + 1)) = beN ((l.take 8).take k) * 256 + l[k].toNat) := Lib.hid (by rw [List.take_succ_eq_append_getElem hkl, beN_snoc, List.getElem_take])
        have HXI : Hid ((beN ((l.take 8).take k) : Int) * 256 < 18446744073709551616) := Lib.hid (by have := HX.out; omega)
        have hw : IntKind.u64.wrap ((beN ((l.take 8).take k) : Int) * 256) = (beN ((l.take 8).take k) : Int) * 256 := by rw [wrap_u64']; have := HXI.out; omega
        go_wp2_with fail
        go_roundw
        case rel => exact ⟨k + 1, by omega, by go_num, by rw [HS.out]; simp, trivial⟩
        case measure => simp [intOf]; omega
      · obtain rfl : k = 8 := by omega
        have hx := beN_lt ((l.take 8).take 8)
        have HS := Lib.hid (sign_off (beN ((l.take 8).take 8)) (by
          have h2 : ((l.take 8).take 8).length = 8 := by rw [List.length_take, HLn.out]; rfl
          rw [h2] at hx
          have h4 : (256 : Nat) ^ 8 = 18446744073709551616 := by decide
          omega))
        go_wp2_with fail
        go_ret
        refine ⟨HK.out, .inl ⟨_, _, _, HP.out, rfl, ?_, HR.out⟩⟩
        show Value.int .i64 (wrap64 (bits .xor .u64 (beN ((l.take 8).take 8) : Int) 9223372036854775808)) = Value.int .i64 ((beN (l.take 8) : Int) - 9223372036854775808)
        rw [HS.out, List.take_take]
        rfl
  · have HP : Hid (intP l = none) := Lib.hid (by unfold intP; rw [if_neg hl])
    go_enter Tryz.func213, Tryz.ntmps213
    go_wp2_with fail
    refine (take_no n₀ R l 8 w H.out (by omega)).mono ?_
    rintro e w1 ⟨rfl, rfl⟩
    go_wp2_with fail
    exact ⟨rfl, keep_refl _ _, .inr ⟨HP.out, rfl⟩⟩
end
end Go.Proofs.YtdjhfcopnhcljaaGreatDoor
