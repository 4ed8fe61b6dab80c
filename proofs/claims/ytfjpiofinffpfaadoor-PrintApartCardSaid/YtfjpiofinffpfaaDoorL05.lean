/-
  Two parts put together.
  Inside of print: named (Tm).
  Inside of print: named (Ty).
  Inside of print: named (Pa).
  Inside of print: tail (Li).
  Inside of print: tail (Ac).
  Inside of print: atoms, comparisons, parameters, acts.
  Inside of print: literals.
  Inside of print: rules, declarations, events; the answer.
-/
import Derived.Test.YtfjpiofinffpfaaDoorL03
import Derived.Test.YtfjpiofinffpfaaDoorL04
import Derived.Test.YtfjpiofinffpfaaDoorL02
namespace Go.Proofs.YtfjpiofinffpfaaDoor
section
open Go Go.RowKit Go.Shelf

theorem two_in {o1 o2 : Option (List UInt8)} {b1 b2 : Bool} {s1 s2 : ByteArray} (f : List UInt8 → List UInt8 → List UInt8) (h1 : o1 = if b1 = true then some s1.data.toList else none) (h2 : o2 = if b2 = true then some s2.data.toList else none) :
    two o1 o2 f = if (b1 && b2) = true then some (f s1.data.toList s2.data.toList) else none := by
  subst h1
  subst h2
  cases b1 <;> cases b2 <;> rfl
theorem map_in {o1 : Option (List UInt8)} {b1 : Bool} {s1 : ByteArray} (f : List UInt8 → List UInt8) (h1 : o1 = if b1 = true then some s1.data.toList else none) : o1.map f = if b1 = true then some (f s1.data.toList) else none := by
  subst h1
  cases b1 <;> rfl
theorem add_run (a b : ByteArray) (h : a.size + b.size ≤ 140737488355328) (W : World) : (Op.stringOp .add a b).run Tryd.prog W = .ok (.string (a ++ b)) W := run_string_add_sum (P := Tryd.prog) (w := W) _ _ (by omega)
end
section
open Go Go.RowKit Go.Shelf

set_option maxRecDepth 100000 in
set_option maxHeartbeats 4000000 in
theorem pnamedTm_any {P : TmL → Option (List UInt8)} {M : Nat} (s : ByteArray) (v : Value) (L : List TmL) (S : Nat → Prop) (w : World) (h : RowIn tmY S w v L) (hs : s.size ≤ 300) (hlen : L.length * (M + 2) ≤ 50000000) (hL : L.length ≤ 1000000) (G : Glob w)
    (HF : ∀ (X : TmL) (us : List Value) (W : World), X ∈ L → Below w.heap.size w W → tmY.is S W us X → Calls Tryd.prog 39 #[.agg us.toArray] W (InP M (P X) W)) :
    Calls Tryd.prog 38 #[.string s, v, .func (.func 39) #[] #[]] w (InP (302 + L.length * (M + 2)) (namedP P s.data.toList L) w) := by
  have H1 := Lib.hid (name_any s 300 w (by omega) hs G)
  have H2 : Hid (∀ W, Below w.heap.size w W → Calls Tryd.prog 46 #[v, .string ⟨#[44, 32]⟩, .func (.func 39) #[] #[]] W (InP (L.length * (M + 2)) (rowP P [44, 32] L) W)) :=
    Lib.hid (fun W hb => pjoinTm_any ⟨#[44, 32]⟩ v L S W (h.in_below hb) (by decide) hlen hL fun X us W' hm hb' hu => HF X us W' hm (hb.trans (hb'.mono hb.size)) hu)
  have HLen := Lib.hid hlen
  obtain ⟨p, c, rfl⟩ := h.shape
  obtain ⟨n, hn⟩ : ∃ n, n = L.length := ⟨_, rfl⟩
  unfold namedP
  generalize nameP s.data.toList = o1 at *
  generalize rowP P [44, 32] L = o2 at *
  rw [← hn] at H2 HLen ⊢
  clear h HF hlen hs hn hL G
  go_enter Tryd.func38, Tryd.ntmps38
  go_wp2_with fail
  refine H1.out.mono ?_
  rintro y w1 ⟨r, b, rfl, g1, g2, g3⟩
  have HE := Lib.hid (And.intro g1 (And.intro g2 g3))
  clear g1 g2 g3 H1
  go_wp2_with fail
  refine (H2.out w1 HE.out.2.2).mono ?_
  rintro y w2 ⟨r2, b2, rfl, g1, g2, g3⟩
  have HE2 := Lib.hid (And.intro g1 (And.intro g2 (HE.out.2.2.trans (g3.mono HE.out.2.2.size))))
  have HT := Lib.hid (two_in (fun a b => a ++ [40] ++ b ++ [41]) HE.out.2.1 g2)
  clear g1 g2 g3 H2
  have q1 := add_run r ⟨#[40]⟩ (by have := HE.out.1; rw [show (⟨#[40]⟩ : ByteArray).size = 1 from rfl]; omega)
  have q2 := add_run (r ++ ⟨#[40]⟩) r2 (by have := HE.out.1; have := HE2.out.1; have := HLen.out; rw [ByteArray.size_append, show (⟨#[40]⟩ : ByteArray).size = 1 from rfl]; omega)
  have q3 := add_run (r ++ ⟨#[40]⟩ ++ r2) ⟨#[41]⟩ (by have := HE.out.1; have := HE2.out.1; have := HLen.out; rw [ByteArray.size_append, ByteArray.size_append, show (⟨#[40]⟩ : ByteArray).size = 1 from rfl, show (⟨#[41]⟩ : ByteArray).size = 1 from rfl]; omega)
  have HS : Hid ((r ++ ⟨#[40]⟩ ++ r2 ++ ⟨#[41]⟩).size ≤ 302 + n * (M + 2)) := Lib.hid (by have := HE.out.1; have := HE2.out.1; rw [ByteArray.size_append, ByteArray.size_append, ByteArray.size_append, show (⟨#[40]⟩ : ByteArray).size = 1 from rfl, show (⟨#[41]⟩ : ByteArray).size = 1 from rfl]; omega)
  have HX : Hid ((r ++ ⟨#[40]⟩ ++ r2 ++ ⟨#[41]⟩).data.toList = r.data.toList ++ [40] ++ r2.data.toList ++ [41]) := Lib.hid (by simp)
  cases b <;> cases b2
  all_goals
    go_wp2_with fail
    go_ret2
    refine ⟨_, _, rfl, HS.out, ?_, HE2.out.2.2⟩
    rw [HT.out, HX.out]
    rfl
end
section
open Go Go.RowKit Go.Shelf

set_option maxRecDepth 100000 in
set_option maxHeartbeats 4000000 in
theorem pnamedTy_any {P : Int → Option (List UInt8)} {M : Nat} (s : ByteArray) (v : Value) (L : List Int) (S : Nat → Prop) (w : World) (h : RowIn tyY S w v L) (hs : s.size ≤ 300) (hlen : L.length * (M + 2) ≤ 50000000) (hL : L.length ≤ 1000000) (G : Glob w)
    (HF : ∀ (X : Int) (us : List Value) (W : World), X ∈ L → Below w.heap.size w W → tyY.is S W us X → Calls Tryd.prog 36 #[us.headD .nilIface] W (InP M (P X) W)) :
    Calls Tryd.prog 35 #[.string s, v, .func (.func 36) #[] #[]] w (InP (302 + L.length * (M + 2)) (namedP P s.data.toList L) w) := by
  have H1 := Lib.hid (name_any s 300 w (by omega) hs G)
  have H2 : Hid (∀ W, Below w.heap.size w W → Calls Tryd.prog 44 #[v, .string ⟨#[44, 32]⟩, .func (.func 36) #[] #[]] W (InP (L.length * (M + 2)) (rowP P [44, 32] L) W)) :=
    Lib.hid (fun W hb => pjoinTy_any ⟨#[44, 32]⟩ v L S W (h.in_below hb) (by decide) hlen hL fun X us W' hm hb' hu => HF X us W' hm (hb.trans (hb'.mono hb.size)) hu)
  have HLen := Lib.hid hlen
  obtain ⟨p, c, rfl⟩ := h.shape
  obtain ⟨n, hn⟩ : ∃ n, n = L.length := ⟨_, rfl⟩
  unfold namedP
  generalize nameP s.data.toList = o1 at *
  generalize rowP P [44, 32] L = o2 at *
  rw [← hn] at H2 HLen ⊢
  clear h HF hlen hs hn hL G
  go_enter Tryd.func35, Tryd.ntmps35
  go_wp2_with fail
  refine H1.out.mono ?_
  rintro y w1 ⟨r, b, rfl, g1, g2, g3⟩
  have HE := Lib.hid (And.intro g1 (And.intro g2 g3))
  clear g1 g2 g3 H1
  go_wp2_with fail
  refine (H2.out w1 HE.out.2.2).mono ?_
  rintro y w2 ⟨r2, b2, rfl, g1, g2, g3⟩
  have HE2 := Lib.hid (And.intro g1 (And.intro g2 (HE.out.2.2.trans (g3.mono HE.out.2.2.size))))
  have HT := Lib.hid (two_in (fun a b => a ++ [40] ++ b ++ [41]) HE.out.2.1 g2)
  clear g1 g2 g3 H2
  have q1 := add_run r ⟨#[40]⟩ (by have := HE.out.1; rw [show (⟨#[40]⟩ : ByteArray).size = 1 from rfl]; omega)
  have q2 := add_run (r ++ ⟨#[40]⟩) r2 (by have := HE.out.1; have := HE2.out.1; have := HLen.out; rw [ByteArray.size_append, show (⟨#[40]⟩ : ByteArray).size = 1 from rfl]; omega)
  have q3 := add_run (r ++ ⟨#[40]⟩ ++ r2) ⟨#[41]⟩ (by have := HE.out.1; have := HE2.out.1; have := HLen.out; rw [ByteArray.size_append, ByteArray.size_append, show (⟨#[40]⟩ : ByteArray).size = 1 from rfl, show (⟨#[41]⟩ : ByteArray).size = 1 from rfl]; omega)
  have HS : Hid ((r ++ ⟨#[40]⟩ ++ r2 ++ ⟨#[41]⟩).size ≤ 302 + n * (M + 2)) := Lib.hid (by have := HE.out.1; have := HE2.out.1; rw [ByteArray.size_append, ByteArray.size_append, ByteArray.size_append, show (⟨#[40]⟩ : ByteArray).size = 1 from rfl, show (⟨#[41]⟩ : ByteArray).size = 1 from rfl]; omega)
  have HX : Hid ((r ++ ⟨#[40]⟩ ++ r2 ++ ⟨#[41]⟩).data.toList = r.data.toList ++ [40] ++ r2.data.toList ++ [41]) := Lib.hid (by simp)
  cases b <;> cases b2
  all_goals
    go_wp2_with fail
    go_ret2
    refine ⟨_, _, rfl, HS.out, ?_, HE2.out.2.2⟩
    rw [HT.out, HX.out]
    rfl
end
section
open Go Go.RowKit Go.Shelf

set_option maxRecDepth 100000 in
set_option maxHeartbeats 4000000 in
theorem pnamedPa_any {P : (List UInt8 × Int) → Option (List UInt8)} {M : Nat} (s : ByteArray) (v : Value) (L : List (List UInt8 × Int)) (S : Nat → Prop) (w : World) (h : RowIn paY S w v L) (hs : s.size ≤ 300) (hlen : L.length * (M + 2) ≤ 50000000) (hL : L.length ≤ 1000000) (G : Glob w)
    (HF : ∀ (X : (List UInt8 × Int)) (us : List Value) (W : World), X ∈ L → Below w.heap.size w W → paY.is S W us X → Calls Tryd.prog 32 #[.agg us.toArray] W (InP M (P X) W)) :
    Calls Tryd.prog 31 #[.string s, v, .func (.func 32) #[] #[]] w (InP (302 + L.length * (M + 2)) (namedP P s.data.toList L) w) := by
  have H1 := Lib.hid (name_any s 300 w (by omega) hs G)
  have H2 : Hid (∀ W, Below w.heap.size w W → Calls Tryd.prog 42 #[v, .string ⟨#[44, 32]⟩, .func (.func 32) #[] #[]] W (InP (L.length * (M + 2)) (rowP P [44, 32] L) W)) :=
    Lib.hid (fun W hb => pjoinPa_any ⟨#[44, 32]⟩ v L S W (h.in_below hb) (by decide) hlen hL fun X us W' hm hb' hu => HF X us W' hm (hb.trans (hb'.mono hb.size)) hu)
  have HLen := Lib.hid hlen
  obtain ⟨p, c, rfl⟩ := h.shape
  obtain ⟨n, hn⟩ : ∃ n, n = L.length := ⟨_, rfl⟩
  unfold namedP
  generalize nameP s.data.toList = o1 at *
  generalize rowP P [44, 32] L = o2 at *
  rw [← hn] at H2 HLen ⊢
  clear h HF hlen hs hn hL G
  go_enter Tryd.func31, Tryd.ntmps31
  go_wp2_with fail
  refine H1.out.mono ?_
  rintro y w1 ⟨r, b, rfl, g1, g2, g3⟩
  have HE := Lib.hid (And.intro g1 (And.intro g2 g3))
  clear g1 g2 g3 H1
  go_wp2_with fail
  refine (H2.out w1 HE.out.2.2).mono ?_
  rintro y w2 ⟨r2, b2, rfl, g1, g2, g3⟩
  have HE2 := Lib.hid (And.intro g1 (And.intro g2 (HE.out.2.2.trans (g3.mono HE.out.2.2.size))))
  have HT := Lib.hid (two_in (fun a b => a ++ [40] ++ b ++ [41]) HE.out.2.1 g2)
  clear g1 g2 g3 H2
  have q1 := add_run r ⟨#[40]⟩ (by have := HE.out.1; rw [show (⟨#[40]⟩ : ByteArray).size = 1 from rfl]; omega)
  have q2 := add_run (r ++ ⟨#[40]⟩) r2 (by have := HE.out.1; have := HE2.out.1; have := HLen.out; rw [ByteArray.size_append, show (⟨#[40]⟩ : ByteArray).size = 1 from rfl]; omega)
  have q3 := add_run (r ++ ⟨#[40]⟩ ++ r2) ⟨#[41]⟩ (by have := HE.out.1; have := HE2.out.1; have := HLen.out; rw [ByteArray.size_append, ByteArray.size_append, show (⟨#[40]⟩ : ByteArray).size = 1 from rfl, show (⟨#[41]⟩ : ByteArray).size = 1 from rfl]; omega)
  have HS : Hid ((r ++ ⟨#[40]⟩ ++ r2 ++ ⟨#[41]⟩).size ≤ 302 + n * (M + 2)) := Lib.hid (by have := HE.out.1; have := HE2.out.1; rw [ByteArray.size_append, ByteArray.size_append, ByteArray.size_append, show (⟨#[40]⟩ : ByteArray).size = 1 from rfl, show (⟨#[41]⟩ : ByteArray).size = 1 from rfl]; omega)
  have HX : Hid ((r ++ ⟨#[40]⟩ ++ r2 ++ ⟨#[41]⟩).data.toList = r.data.toList ++ [40] ++ r2.data.toList ++ [41]) := Lib.hid (by simp)
  cases b <;> cases b2
  all_goals
    go_wp2_with fail
    go_ret2
    refine ⟨_, _, rfl, HS.out, ?_, HE2.out.2.2⟩
    rw [HT.out, HX.out]
    rfl
end
section
open Go Go.RowKit Go.Shelf

set_option maxRecDepth 100000 in
set_option maxHeartbeats 4000000 in
theorem ptailLi_any {P : LiL → Option (List UInt8)} {M : Nat} (s : ByteArray) (v : Value) (L : List LiL) (S : Nat → Prop) (w : World) (h : RowIn liY S w v L) (hs : s.size ≤ 10) (hlen : L.length * (M + 2) ≤ 50000000) (hL : L.length ≤ 1000000)
    (HF : ∀ (X : LiL) (us : List Value) (W : World), X ∈ L → Below w.heap.size w W → liY.is S W us X → Calls Tryd.prog 30 #[.agg us.toArray] W (InP M (P X) W)) :
    Calls Tryd.prog 29 #[.string s, v, .func (.func 30) #[] #[]] w (InP (10 + L.length * (M + 2)) (tailP s.data.toList P L) w) := by
  obtain ⟨n, hn⟩ : ∃ n, n = L.length := ⟨_, rfl⟩
  by_cases h0 : n = 0
  · have HO := Lib.hid (show tailP s.data.toList P L = some [] by unfold tailP; rw [if_pos (by omega)])
    obtain ⟨p, c, rfl⟩ := h.shape
    rw [← hn, h0]
    generalize tailP s.data.toList P L = o at *
    clear h HF hlen hs hn hL h0
    go_enter Tryd.func29, Tryd.ntmps29
    go_wp2_with fail
    go_ret2
    exact .yes HO.out (empty_le _) (Below.refl _ _)
  have HO := Lib.hid (show tailP s.data.toList P L = (rowP P [44, 32] L).map (s.data.toList ++ ·) by unfold tailP; rw [if_neg (by omega)])
  have H2 : Hid (Calls Tryd.prog 40 #[v, .string ⟨#[44, 32]⟩, .func (.func 30) #[] #[]] w (InP (L.length * (M + 2)) (rowP P [44, 32] L) w)) :=
    Lib.hid (pjoinLi_any ⟨#[44, 32]⟩ v L S w h (by decide) hlen hL HF)
  have HLen := Lib.hid hlen
  have HSs := Lib.hid hs
  obtain ⟨p, c, rfl⟩ := h.shape
  generalize tailP s.data.toList P L = o at *
  generalize rowP P [44, 32] L = o2 at *
  rw [← hn] at H2 HLen ⊢
  have h1 : ¬ (n : Int) = 0 := by omega
  clear h HF hlen hs hn hL
  go_enter Tryd.func29, Tryd.ntmps29
  go_wp2_with fail
  refine H2.out.mono ?_
  rintro y w2 ⟨r2, b2, rfl, g1, g2, g3⟩
  have HE2 := Lib.hid (And.intro g1 (And.intro g2 g3))
  have HT := Lib.hid (map_in (s.data.toList ++ ·) g2)
  clear g1 g2 g3 H2
  have q1 := add_run s r2 (by have := HSs.out; have := HE2.out.1; have := HLen.out; omega)
  have HS : Hid ((s ++ r2).size ≤ 10 + n * (M + 2)) := Lib.hid (by have := HSs.out; have := HE2.out.1; rw [ByteArray.size_append]; omega)
  have HX : Hid ((s ++ r2).data.toList = s.data.toList ++ r2.data.toList) := Lib.hid (by simp)
  go_wp2_with fail
  go_ret2
  refine ⟨_, _, rfl, HS.out, ?_, HE2.out.2.2⟩
  rw [HO.out, HT.out, HX.out]
end
section
open Go Go.RowKit Go.Shelf

set_option maxRecDepth 100000 in
set_option maxHeartbeats 4000000 in
theorem ptailAc_any {P : ActL → Option (List UInt8)} {M : Nat} (s : ByteArray) (v : Value) (L : List ActL) (S : Nat → Prop) (w : World) (h : RowIn acY S w v L) (hs : s.size ≤ 10) (hlen : L.length * (M + 2) ≤ 50000000) (hL : L.length ≤ 1000000)
    (HF : ∀ (X : ActL) (us : List Value) (W : World), X ∈ L → Below w.heap.size w W → acY.is S W us X → Calls Tryd.prog 34 #[.agg us.toArray] W (InP M (P X) W)) :
    Calls Tryd.prog 33 #[.string s, v, .func (.func 34) #[] #[]] w (InP (10 + L.length * (M + 2)) (tailP s.data.toList P L) w) := by
  obtain ⟨n, hn⟩ : ∃ n, n = L.length := ⟨_, rfl⟩
  by_cases h0 : n = 0
  · have HO := Lib.hid (show tailP s.data.toList P L = some [] by unfold tailP; rw [if_pos (by omega)])
    obtain ⟨p, c, rfl⟩ := h.shape
    rw [← hn, h0]
    generalize tailP s.data.toList P L = o at *
    clear h HF hlen hs hn hL h0
    go_enter Tryd.func33, Tryd.ntmps33
    go_wp2_with fail
    go_ret2
    exact .yes HO.out (empty_le _) (Below.refl _ _)
  have HO := Lib.hid (show tailP s.data.toList P L = (rowP P [44, 32] L).map (s.data.toList ++ ·) by unfold tailP; rw [if_neg (by omega)])
  have H2 : Hid (Calls Tryd.prog 43 #[v, .string ⟨#[44, 32]⟩, .func (.func 34) #[] #[]] w (InP (L.length * (M + 2)) (rowP P [44, 32] L) w)) :=
    Lib.hid (pjoinAc_any ⟨#[44, 32]⟩ v L S w h (by decide) hlen hL HF)
  have HLen := Lib.hid hlen
  have HSs := Lib.hid hs
  obtain ⟨p, c, rfl⟩ := h.shape
  generalize tailP s.data.toList P L = o at *
  generalize rowP P [44, 32] L = o2 at *
  rw [← hn] at H2 HLen ⊢
  have h1 : ¬ (n : Int) = 0 := by omega
  clear h HF hlen hs hn hL
  go_enter Tryd.func33, Tryd.ntmps33
  go_wp2_with fail
  refine H2.out.mono ?_
  rintro y w2 ⟨r2, b2, rfl, g1, g2, g3⟩
  have HE2 := Lib.hid (And.intro g1 (And.intro g2 g3))
  have HT := Lib.hid (map_in (s.data.toList ++ ·) g2)
  clear g1 g2 g3 H2
  have q1 := add_run s r2 (by have := HSs.out; have := HE2.out.1; have := HLen.out; omega)
  have HS : Hid ((s ++ r2).size ≤ 10 + n * (M + 2)) := Lib.hid (by have := HSs.out; have := HE2.out.1; rw [ByteArray.size_append]; omega)
  have HX : Hid ((s ++ r2).data.toList = s.data.toList ++ r2.data.toList) := Lib.hid (by simp)
  go_wp2_with fail
  go_ret2
  refine ⟨_, _, rfl, HS.out, ?_, HE2.out.2.2⟩
  rw [HO.out, HT.out, HX.out]
end
section
open Go Go.RowKit Go.Shelf

theorem InP.le {M M' : Nat} {o : Option (List UInt8)} {w w' : World} {e : Ending} (hM : M ≤ M') (h : InP M o w e w') : InP M' o w e w' := by
  obtain ⟨s, b, h1, h2, h3, h4⟩ := h
  exact ⟨s, b, h1, Nat.le_trans h2 hM, h3, h4⟩
structure SmA (a : AtL) : Prop where
  pred : a.pred.length ≤ 300
  few : a.args.length ≤ 12
  all_ : ∀ t ∈ a.args, SmT t
theorem two_newT (w : World) (o o' : Obj) : ((w.alloc o).alloc o').heap[w.heap.size + 1]? = some o' := by
  have h := heap_alloc_new (w.alloc o) o'
  rwa [show (w.alloc o).heap.size = w.heap.size + 1 by simp] at h
theorem str_len (l : List UInt8) : (⟨l.toArray⟩ : ByteArray).size = l.length := by rw [Lib.size_eq]
set_option maxRecDepth 100000 in
set_option maxHeartbeats 4000000 in
theorem patom_text (a : AtL) (u : Value) (S : Nat → Prop) (w : World) (h : RowIn tmY S w u a.args) (hs : SmA a) (G : Glob w) : Calls Tryd.prog 28 #[.agg #[.string ⟨a.pred.toArray⟩, u]] w (InP 14000 (atomP a) w) := by
  have HN : Hid (∀ W, Below w.heap.size w W → Calls Tryd.prog 38 #[.string ⟨a.pred.toArray⟩, u, .func (.func 39) #[] #[]] W (InP 14000 (atomP a) W)) :=
    Lib.hid (fun W hb => (pnamedTm_any (P := termP) (M := 1100) ⟨a.pred.toArray⟩ u a.args S W (h.in_below hb) (by rw [str_len]; exact hs.pred) (by have := Nat.mul_le_mul_right (1100 + 2) hs.few; omega) (by have := hs.few; omega) (G.below hb) (fun X us W' hm hb' hu => by
      have hu : us = cellT X := hu
      subst hu
      exact term_any X W' (hs.all_ X hm) ((G.below hb).below hb'))).mono fun y w' hy => InP.le (by have := Nat.mul_le_mul_right (1100 + 2) hs.few; omega) hy)
  obtain ⟨p, c, rfl⟩ := h.shape
  generalize atomP a = o at *
  generalize (⟨a.pred.toArray⟩ : ByteArray) = nm at *
  clear h hs G
  have HB := Lib.hid (below_box w (.cells #[.string nm, .slice p a.args.length c] 24))
  go_enter Tryd.func28, Tryd.ntmps28
  go_wp2_with fail
  refine (HN.out _ HB.out).mono ?_
  rintro y w1 ⟨r, b, rfl, g1, g2, g3⟩
  have HE := Lib.hid (And.intro g1 (And.intro g2 (HB.out.trans (g3.mono HB.out.size))))
  clear g1 g2 g3
  go_wp2_with fail
  go_ret2
  exact ⟨r, b, rfl, HE.out.1, HE.out.2.1, HE.out.2.2⟩
set_option maxRecDepth 100000 in
set_option maxHeartbeats 4000000 in
theorem comparison_any (a b : TmL) (n : Int) (w : World) (ha : SmT a) (hb : SmT b) (G : Glob w) : Calls Tryd.prog 41 #[valT a, .int .i64 n, valT b] w (InP 2300 (cmpP a n b) w) := by
  have HA : Hid (∀ W, Below w.heap.size w W → Calls Tryd.prog 39 #[valT a] W (InP 1100 (termP a) W)) := Lib.hid (fun W h => term_any a W ha (G.below h))
  have HC : Hid (∀ W, Below w.heap.size w W → Calls Tryd.prog 39 #[valT b] W (InP 1100 (termP b) W)) := Lib.hid (fun W h => term_any b W hb (G.below h))
  obtain ⟨k, nm, v1, v2, v3⟩ := a
  obtain ⟨k', nm', v1', v2', v3'⟩ := b
  unfold cmpP
  generalize termP _ = oa at *
  generalize termP _ = ob at *
  unfold valT at HA HC ⊢
  simp only at HA HC ⊢
  generalize (⟨nm.toArray⟩ : ByteArray) = s at *
  generalize (⟨nm'.toArray⟩ : ByteArray) = s' at *
  clear ha hb G
  have HB := Lib.hid (below_box2 w (.cells #[.int .i64 k, .string s, .int .i64 v1, .int .i64 v2, .string v3] 53) (.cells #[.int .i64 k', .string s', .int .i64 v1', .int .i64 v2', .string v3'] 53))
  go_enter Tryd.func41, Tryd.ntmps41
  go_wp2_with fail
  refine (HA.out _ HB.out).mono ?_
  rintro y w1 ⟨r, b1, rfl, g1, g2, g3⟩
  have hx := (g3.block (w.heap.size + 1) (by simp)).trans (two_newT w (.cells #[.int .i64 k, .string s, .int .i64 v1, .int .i64 v2, .string v3] 53) (.cells #[.int .i64 k', .string s', .int .i64 v1', .int .i64 v2', .string v3'] 53))
  have HE := Lib.hid (And.intro g1 (And.intro g2 (HB.out.trans (g3.mono HB.out.size))))
  clear g1 g2 g3
  have HO := Lib.hid (operator_any n)
  go_wp2_with fail
  refine (HO.out w1).mono ?_
  rintro y w2 ⟨r2, b2, rfl, g1, g2, g3⟩
  have hx2 := (g3.block (w.heap.size + 1) (Array.getElem?_eq_some_iff.1 hx).1).trans hx
  have HE2 := Lib.hid (And.intro g1 (And.intro g2 (HE.out.2.2.trans (g3.mono HE.out.2.2.size))))
  obtain ⟨c0, c1, c2, c3, c4⟩ := five_cells hx2
  clear g1 g2 g3 hx hx2 HO
  go_wp2_with fail
  refine (HC.out w2 HE2.out.2.2).mono ?_
  rintro y w3 ⟨r3, b3, rfl, g1, g2, g3⟩
  have HE3 := Lib.hid (And.intro g1 (And.intro g2 (HE2.out.2.2.trans (g3.mono HE2.out.2.2.size))))
  clear c0 c1 c2 c3 c4 g1 g2 g3
  have z1 : (⟨#[32]⟩ : ByteArray).size = 1 := rfl
  have q1 := add_run r ⟨#[32]⟩ (by have := HE.out.1; omega)
  have q2 := add_run (r ++ ⟨#[32]⟩) r2 (by have := HE.out.1; have := HE2.out.1; rw [ByteArray.size_append]; omega)
  have q3 := add_run (r ++ ⟨#[32]⟩ ++ r2) ⟨#[32]⟩ (by have := HE.out.1; have := HE2.out.1; rw [ByteArray.size_append, ByteArray.size_append]; omega)
  have q4 := add_run (r ++ ⟨#[32]⟩ ++ r2 ++ ⟨#[32]⟩) r3 (by have := HE.out.1; have := HE2.out.1; have := HE3.out.1; rw [ByteArray.size_append, ByteArray.size_append, ByteArray.size_append]; omega)
  have HS : Hid ((r ++ ⟨#[32]⟩ ++ r2 ++ ⟨#[32]⟩ ++ r3).size ≤ 2300) := Lib.hid (by have := HE.out.1; have := HE2.out.1; have := HE3.out.1; rw [ByteArray.size_append, ByteArray.size_append, ByteArray.size_append, ByteArray.size_append]; omega)
  have HX : Hid ((r ++ ⟨#[32]⟩ ++ r2 ++ ⟨#[32]⟩ ++ r3).data.toList = r.data.toList ++ [32] ++ r2.data.toList ++ [32] ++ r3.data.toList) := Lib.hid (by simp)
  have HT : Hid (two (two oa (opP n) fun x y => x ++ [32] ++ y) ob (fun x y => x ++ [32] ++ y) = if ((b1 && b2) && b3) = true then some (r.data.toList ++ [32] ++ r2.data.toList ++ [32] ++ r3.data.toList) else none) := Lib.hid (by
    rw [HE.out.2.1, HE2.out.2.1, HE3.out.2.1]
    cases b1 <;> cases b2 <;> cases b3 <;> rfl)
  clear z1
  cases b1 <;> cases b2 <;> cases b3
  all_goals
    go_wp2_with fail
    go_ret2
    refine ⟨_, _, rfl, HS.out, ?_, HE3.out.2.2⟩
    rw [HT.out, HX.out]
    rfl
set_option maxRecDepth 100000 in
set_option maxHeartbeats 4000000 in
theorem pparam_text (p : List UInt8 × Int) (w : World) (hs : p.1.length ≤ 300) (G : Glob w) : Calls Tryd.prog 32 #[.agg #[.string ⟨p.1.toArray⟩, .int .i64 p.2]] w (InP 310 (paramP p) w) := by
  obtain ⟨l, n⟩ := p
  obtain ⟨nm, hnm⟩ : ∃ nm : ByteArray, nm = ⟨l.toArray⟩ := ⟨_, rfl⟩
  have hl : nm.data.toList = l := by rw [hnm]
  have hz : nm.size ≤ 300 := by rw [hnm, str_len]; exact hs
  show Calls Tryd.prog 32 #[.agg #[.string ⟨l.toArray⟩, .int .i64 n]] w (InP 310 (paramP (l, n)) w)
  unfold paramP
  simp only
  rw [← hnm]
  have HV : Hid (∀ W, Below w.heap.size w W → Calls Tryd.prog 26 #[.string nm] W (InP 300 (varP l) W)) := Lib.hid (fun W h => by rw [← hl]; exact variable_any nm 300 W (by omega) hz (G.below h))
  have HY := Lib.hid (fun W => ptyped_text n 3 W (Nat.le_refl _))
  generalize varP l = oa at *
  generalize typeP n = ob at *
  clear hs G hnm hl hz
  have HB := Lib.hid (below_box w (.cells #[.string nm, .int .i64 n] 60))
  go_enter Tryd.func32, Tryd.ntmps32
  go_wp2_with fail
  refine (HV.out _ HB.out).mono ?_
  rintro y w1 ⟨r, b1, rfl, g1, g2, g3⟩
  have hx := (g3.block w.heap.size (by simp)).trans (heap_alloc_new w (.cells #[.string nm, .int .i64 n] 60))
  have c1 : w1.cell? ⟨w.heap.size, 1, none⟩ = some (.int .i64 n) := (cell_of_row _ _ 1 _ _ (0, 0) hx).trans rfl
  have HE := Lib.hid (And.intro g1 (And.intro g2 (HB.out.trans (g3.mono HB.out.size))))
  clear g1 g2 g3 hx
  go_wp2_with fail
  refine (HY.out w1).mono ?_
  rintro y w2 ⟨r2, b2, rfl, g1, g2, g3⟩
  have HE2 := Lib.hid (And.intro g1 (And.intro g2 (HE.out.2.2.trans (g3.mono HE.out.2.2.size))))
  clear g1 g2 g3 c1
  have z1 : (⟨#[32]⟩ : ByteArray).size = 1 := rfl
  have q1 := add_run r ⟨#[32]⟩ (by have := HE.out.1; omega)
  have q2 := add_run (r ++ ⟨#[32]⟩) r2 (by have := HE.out.1; have := HE2.out.1; rw [ByteArray.size_append]; omega)
  have HS : Hid ((r ++ ⟨#[32]⟩ ++ r2).size ≤ 310) := Lib.hid (by have := HE.out.1; have := HE2.out.1; rw [ByteArray.size_append, ByteArray.size_append]; omega)
  have HX : Hid ((r ++ ⟨#[32]⟩ ++ r2).data.toList = r.data.toList ++ [32] ++ r2.data.toList) := Lib.hid (by simp)
  have HT := Lib.hid (two_in (fun a b => a ++ [32] ++ b) HE.out.2.1 HE2.out.2.1)
  clear z1
  cases b1 <;> cases b2
  all_goals
    go_wp2_with fail
    go_ret2
    refine ⟨_, _, rfl, HS.out, ?_, HE2.out.2.2⟩
    rw [HT.out, HX.out]
    rfl
set_option maxRecDepth 100000 in
set_option maxHeartbeats 4000000 in
theorem pact_text (a : ActL) (u : Value) (S : Nat → Prop) (w : World) (h : RowIn tmY S w u a.atom.args) (hs : SmA a.atom) (G : Glob w) : Calls Tryd.prog 34 #[.agg #[.bool a.plus, .string ⟨a.atom.pred.toArray⟩, u]] w (InP 15000 (actP a) w) := by
  have HN : Hid (∀ W, Below w.heap.size w W → Calls Tryd.prog 28 #[.agg #[.string ⟨a.atom.pred.toArray⟩, u]] W (InP 14000 (atomP a.atom) W)) := Lib.hid (fun W hb => patom_text a.atom u S W (h.in_below hb) hs (G.below hb))
  obtain ⟨p, c, rfl⟩ := h.shape
  obtain ⟨pl, at_⟩ := a
  unfold actP
  simp only at HN ⊢
  generalize at_.args.length = m at *
  generalize atomP at_ = o at *
  generalize (⟨at_.pred.toArray⟩ : ByteArray) = nm at *
  clear h hs G
  have HB := Lib.hid (below_box w (.cells #[.bool pl, .string nm, .slice p m c] 62))
  cases pl
  all_goals
    go_enter Tryd.func34, Tryd.ntmps34
    go_wp2_with fail
    refine (HN.out _ HB.out).mono ?_
    rintro y w1 ⟨r, b, rfl, g1, g2, g3⟩
    have HE := Lib.hid (And.intro g1 (And.intro g2 (HB.out.trans (g3.mono HB.out.size))))
    clear g1 g2 g3
  · have q1 := add_run ⟨#[45]⟩ r (by have := HE.out.1; rw [show (⟨#[45]⟩ : ByteArray).size = 1 from rfl]; omega)
    have HS : Hid (((⟨#[45]⟩ : ByteArray) ++ r).size ≤ 15000) := Lib.hid (by have := HE.out.1; rw [ByteArray.size_append, show (⟨#[45]⟩ : ByteArray).size = 1 from rfl]; omega)
    have HX : Hid (((⟨#[45]⟩ : ByteArray) ++ r).data.toList = [45] ++ r.data.toList) := Lib.hid (by simp)
    go_wp2_with fail
    go_ret2
    refine ⟨_, _, rfl, HS.out, ?_, HE.out.2.2⟩
    rw [map_in _ HE.out.2.1, HX.out]
    rfl
  · have q1 := add_run ⟨#[43]⟩ r (by have := HE.out.1; rw [show (⟨#[43]⟩ : ByteArray).size = 1 from rfl]; omega)
    have HS : Hid (((⟨#[43]⟩ : ByteArray) ++ r).size ≤ 15000) := Lib.hid (by have := HE.out.1; rw [ByteArray.size_append, show (⟨#[43]⟩ : ByteArray).size = 1 from rfl]; omega)
    have HX : Hid (((⟨#[43]⟩ : ByteArray) ++ r).data.toList = [43] ++ r.data.toList) := Lib.hid (by simp)
    go_wp2_with fail
    go_ret2
    refine ⟨_, _, rfl, HS.out, ?_, HE.out.2.2⟩
    rw [map_in _ HE.out.2.1, HX.out]
    rfl
end
section
open Go Go.RowKit Go.Shelf

structure SmLi (l : LiL) : Prop where
  atom : SmA l.atom
  a : SmT l.a
  b : SmT l.b
theorem zeroT_iff {t : TmL} : t = zeroT ↔ t.kind = 0 ∧ t.name = [] ∧ t.val = zeroL := by
  obtain ⟨k, n, v⟩ := t
  constructor
  · intro h
    cases h
    exact ⟨rfl, rfl, rfl⟩
  · rintro ⟨h1, h2, h3⟩
    simp only at h1 h2 h3
    subst h1 h2 h3
    rfl
theorem lit_pos {l : LiL} (h : l.kind = 1 ∨ l.kind = 2) :
    (l.op = 0 ∧ l.a = zeroT ∧ l.b = zeroT → litP l = (atomP l.atom).map ((if l.kind = 2 then wNot ++ [32] else []) ++ ·)) ∧ (¬ (l.op = 0 ∧ l.a = zeroT ∧ l.b = zeroT) → litP l = none) ∧ (atomP l.atom = none → litP l = none) := by
  unfold litP
  rw [if_pos h]
  refine ⟨fun h1 => by rw [if_pos h1], fun h1 => by rw [if_neg h1], fun h1 => ?_⟩
  rw [h1]
  split <;> rfl
theorem lit_cmp {l : LiL} (h : l.kind = 3) : (l.atom.pred = [] ∧ l.atom.args = [] → litP l = cmpP l.a l.op l.b) ∧ (¬ (l.atom.pred = [] ∧ l.atom.args = []) → litP l = none) ∧ (cmpP l.a l.op l.b = none → litP l = none) := by
  unfold litP
  rw [if_neg (by omega), if_pos h]
  refine ⟨fun h1 => by rw [if_pos h1], fun h1 => by rw [if_neg h1], fun h1 => ?_⟩
  rw [h1]
  split <;> rfl
theorem lit_else {l : LiL} (h1 : ¬ l.kind = 1) (h2 : ¬ l.kind = 2) (h3 : ¬ l.kind = 3) : litP l = none := by
  unfold litP
  rw [if_neg (by omega), if_neg h3]
abbrev valLi (l : LiL) (u : Value) : Value := .agg #[.int .i64 l.kind, .string ⟨l.atom.pred.toArray⟩, u, .int .i64 l.op, .int .i64 l.a.kind, .string ⟨l.a.name.toArray⟩, .int .i64 l.a.val.1, .int .i64 l.a.val.2.1, .string l.a.val.2.2, .int .i64 l.b.kind, .string ⟨l.b.name.toArray⟩, .int .i64 l.b.val.1, .int .i64 l.b.val.2.1, .string l.b.val.2.2]
set_option maxRecDepth 100000 in
set_option maxHeartbeats 8000000 in
theorem pliteral_text (l : LiL) (u : Value) (S : Nat → Prop) (w : World) (h : RowIn tmY S w u l.atom.args) (hs : SmLi l) (G : Glob w) : Calls Tryd.prog 30 #[valLi l u] w (InP 15000 (litP l) w) := by
  have HN : Hid (∀ W, Below w.heap.size w W → Calls Tryd.prog 28 #[.agg #[.string ⟨l.atom.pred.toArray⟩, u]] W (InP 14000 (atomP l.atom) W)) := Lib.hid (fun W hb => patom_text l.atom u S W (h.in_below hb) hs.atom (G.below hb))
  have HCm : Hid (∀ W, Below w.heap.size w W → Calls Tryd.prog 41 #[valT l.a, .int .i64 l.op, valT l.b] W (InP 2300 (cmpP l.a l.op l.b) W)) := Lib.hid (fun W hb => comparison_any l.a l.b l.op W hs.a hs.b (G.below hb))
  obtain ⟨ba, hba, qa⟩ := eqT_run l.a 0
  obtain ⟨bb, hbb, qb⟩ := eqT_run l.b 0
  have HA := Lib.hid hba
  have HBb := Lib.hid hbb
  obtain ⟨p, c, rfl⟩ := h.shape
  have HL := Lib.hid (len_le h)
  clear h hs G hba hbb
  obtain ⟨k, at_, op, ⟨ka, na', ⟨a1, a2, a3⟩⟩, ⟨kb, nb', ⟨b1, b2, b3⟩⟩⟩ := l
  unfold valT at HCm qa qb
  unfold valLi
  simp only at HN HCm HA HBb HL qa qb ⊢
  obtain ⟨na, hna⟩ : ∃ na : ByteArray, na = ⟨na'.toArray⟩ := ⟨_, rfl⟩
  obtain ⟨nb, hnb⟩ : ∃ nb : ByteArray, nb = ⟨nb'.toArray⟩ := ⟨_, rfl⟩
  obtain ⟨nm, hnm⟩ : ∃ nm : ByteArray, nm = ⟨at_.pred.toArray⟩ := ⟨_, rfl⟩
  obtain ⟨m, hm⟩ : ∃ m, m = at_.args.length := ⟨_, rfl⟩
  have HNm := Lib.hid hnm
  have HM := Lib.hid hm
  rw [← hna, ← hnb] at HCm
  rw [← hna] at qa
  rw [← hnb] at qb
  rw [← hnm, ← hm] at HN
  rw [← hm] at HL
  rw [← hna, ← hnb, ← hnm, ← hm]
  clear hna hnb hnm hm
  by_cases hk : k = 1
  · subst hk
    have HO := Lib.hid (lit_pos (l := ⟨1, at_, op, ⟨ka, na', (a1, a2, a3)⟩, ⟨kb, nb', (b1, b2, b3)⟩⟩) (.inl rfl))
    generalize litP ⟨1, at_, op, ⟨ka, na', (a1, a2, a3)⟩, ⟨kb, nb', (b1, b2, b3)⟩⟩ = o at *
    clear HCm
    have HB := Lib.hid (below_box w (.cells #[.int .i64 1, .string nm, .slice p m c, .int .i64 op, .int .i64 ka, .string na, .int .i64 a1, .int .i64 a2, .string a3, .int .i64 kb, .string nb, .int .i64 b1, .int .i64 b2, .string b3] 57))
    go_enter Tryd.func30, Tryd.ntmps30
    go_wp2_with fail
    refine (HN.out _ HB.out).mono ?_
    rintro y w1 ⟨r, b, rfl, g1, g2, g3⟩
    have HE := Lib.hid (And.intro g1 (And.intro g2 (HB.out.trans (g3.mono HB.out.size))))
    obtain ⟨⟨c0, c1, c2, c3, c4, c5, c6, c7, c8, c9, c10, c11, c12, c13⟩, -⟩ := cells14 ((g3.block w.heap.size (by simp)).trans (heap_alloc_new w (.cells #[.int .i64 1, .string nm, .slice p m c, .int .i64 op, .int .i64 ka, .string na, .int .i64 a1, .int .i64 a2, .string a3, .int .i64 kb, .string nb, .int .i64 b1, .int .i64 b2, .string b3] 57)))
    clear g1 g2 g3
    have q1 := add_run ⟨#[]⟩ r (by have := HE.out.1; have hz : (⟨#[]⟩ : ByteArray).size = 0 := rfl; omega)
    have HS : Hid (((⟨#[]⟩ : ByteArray) ++ r).size ≤ 15000) := Lib.hid (by have := HE.out.1; have hz : (⟨#[]⟩ : ByteArray).size = 0 := rfl; rw [ByteArray.size_append]; omega)
    have HX : Hid (((⟨#[]⟩ : ByteArray) ++ r).data.toList = [] ++ r.data.toList) := Lib.hid (by simp)
    cases b with
    | false =>
      go_wp2_with fail
      go_quiet (fail)
      rename_i nq
      go_wp2_with fail
      go_ret2
      exact .no (HO.out.2.2 (by rw [HE.out.2.1]; rfl)) HS.out (below_drewB HE.out.2.2 _)

    | true =>
      by_cases hop : op = 0
      · subst hop
        cases ba with
        | false =>
          go_wp2_with fail
          go_quiet (fail)
          rename_i nq
          go_wp2_with fail
          go_ret2
          exact .no (HO.out.2.1 (fun e => by have := HA.out.2 (zeroT_iff.1 e.2.1); cases this)) HS.out (below_drewB HE.out.2.2 _)

        | true =>
          go_wp2_with fail
          go_quiet (fail)
          rename_i nq
          go_wp2_with fail
          go_ret2
          cases bb with
          | false => exact .no (HO.out.2.1 (fun e => by have := HBb.out.2 (zeroT_iff.1 e.2.2); cases this)) HS.out (below_drewB HE.out.2.2 _)
          | true =>
            have hat : atomP at_ = some r.data.toList := by simpa using HE.out.2.1
            refine .yes ((HO.out.1 ⟨by simp, zeroT_iff.2 (HA.out.1 (by simp)), zeroT_iff.2 (HBb.out.1 (by simp))⟩).trans ?_) HS.out (below_drewB HE.out.2.2 _)
            rw [hat, HX.out]
            rfl

      · go_wp2_with fail
        go_quiet (fail)
        rename_i nq
        go_wp2_with fail
        go_ret2
        exact .no (HO.out.2.1 (fun e => hop e.1)) HS.out (below_drewB HE.out.2.2 _)

  by_cases hk : k = 2
  · subst hk
    have HO := Lib.hid (lit_pos (l := ⟨2, at_, op, ⟨ka, na', (a1, a2, a3)⟩, ⟨kb, nb', (b1, b2, b3)⟩⟩) (.inr rfl))
    generalize litP ⟨2, at_, op, ⟨ka, na', (a1, a2, a3)⟩, ⟨kb, nb', (b1, b2, b3)⟩⟩ = o at *
    clear HCm
    have HB := Lib.hid (below_box w (.cells #[.int .i64 2, .string nm, .slice p m c, .int .i64 op, .int .i64 ka, .string na, .int .i64 a1, .int .i64 a2, .string a3, .int .i64 kb, .string nb, .int .i64 b1, .int .i64 b2, .string b3] 57))
    go_enter Tryd.func30, Tryd.ntmps30
    go_wp2_with fail
    refine (HN.out _ HB.out).mono ?_
    rintro y w1 ⟨r, b, rfl, g1, g2, g3⟩
    have HE := Lib.hid (And.intro g1 (And.intro g2 (HB.out.trans (g3.mono HB.out.size))))
    obtain ⟨⟨c0, c1, c2, c3, c4, c5, c6, c7, c8, c9, c10, c11, c12, c13⟩, -⟩ := cells14 ((g3.block w.heap.size (by simp)).trans (heap_alloc_new w (.cells #[.int .i64 2, .string nm, .slice p m c, .int .i64 op, .int .i64 ka, .string na, .int .i64 a1, .int .i64 a2, .string a3, .int .i64 kb, .string nb, .int .i64 b1, .int .i64 b2, .string b3] 57)))
    clear g1 g2 g3
    have q1 := add_run ⟨#[110, 111, 116, 32]⟩ r (by have := HE.out.1; have hz : (⟨#[110, 111, 116, 32]⟩ : ByteArray).size = 4 := rfl; omega)
    have HS : Hid (((⟨#[110, 111, 116, 32]⟩ : ByteArray) ++ r).size ≤ 15000) := Lib.hid (by have := HE.out.1; have hz : (⟨#[110, 111, 116, 32]⟩ : ByteArray).size = 4 := rfl; rw [ByteArray.size_append]; omega)
    have HX : Hid (((⟨#[110, 111, 116, 32]⟩ : ByteArray) ++ r).data.toList = [110, 111, 116, 32] ++ r.data.toList) := Lib.hid (by simp)
    cases b with
    | false =>
      go_wp2_with fail
      go_quiet (fail)
      rename_i nq
      go_wp2_with fail
      go_ret2
      exact .no (HO.out.2.2 (by rw [HE.out.2.1]; rfl)) HS.out (below_drewB HE.out.2.2 _)

    | true =>
      by_cases hop : op = 0
      · subst hop
        cases ba with
        | false =>
          go_wp2_with fail
          go_quiet (fail)
          rename_i nq
          go_wp2_with fail
          go_ret2
          exact .no (HO.out.2.1 (fun e => by have := HA.out.2 (zeroT_iff.1 e.2.1); cases this)) HS.out (below_drewB HE.out.2.2 _)

        | true =>
          go_wp2_with fail
          go_quiet (fail)
          rename_i nq
          go_wp2_with fail
          go_ret2
          cases bb with
          | false => exact .no (HO.out.2.1 (fun e => by have := HBb.out.2 (zeroT_iff.1 e.2.2); cases this)) HS.out (below_drewB HE.out.2.2 _)
          | true =>
            have hat : atomP at_ = some r.data.toList := by simpa using HE.out.2.1
            refine .yes ((HO.out.1 ⟨by simp, zeroT_iff.2 (HA.out.1 (by simp)), zeroT_iff.2 (HBb.out.1 (by simp))⟩).trans ?_) HS.out (below_drewB HE.out.2.2 _)
            rw [hat, HX.out]
            rfl

      · go_wp2_with fail
        go_quiet (fail)
        rename_i nq
        go_wp2_with fail
        go_ret2
        exact .no (HO.out.2.1 (fun e => hop e.1)) HS.out (below_drewB HE.out.2.2 _)

  by_cases hk : k = 3
  · subst hk
    have HO := Lib.hid (lit_cmp (l := ⟨3, at_, op, ⟨ka, na', (a1, a2, a3)⟩, ⟨kb, nb', (b1, b2, b3)⟩⟩) rfl)
    generalize litP ⟨3, at_, op, ⟨ka, na', (a1, a2, a3)⟩, ⟨kb, nb', (b1, b2, b3)⟩⟩ = o at *
    simp only at HO
    generalize cmpP ⟨ka, na', (a1, a2, a3)⟩ op ⟨kb, nb', (b1, b2, b3)⟩ = oc at *
    clear HN qa qb HA HBb
    have he : (nm.toList == []) = decide (at_.pred = []) := by rw [Lib.toList_data, HNm.out]; cases at_.pred <;> rfl
    have he' : nm.toList.isEmpty = decide (at_.pred = []) := by rw [Lib.toList_data, HNm.out]; cases at_.pred <;> rfl
    have HB := Lib.hid (below_box w (.cells #[.int .i64 3, .string nm, .slice p m c, .int .i64 op, .int .i64 ka, .string na, .int .i64 a1, .int .i64 a2, .string a3, .int .i64 kb, .string nb, .int .i64 b1, .int .i64 b2, .string b3] 57))
    go_enter Tryd.func30, Tryd.ntmps30
    go_wp2_with fail
    refine (HCm.out _ HB.out).mono ?_
    rintro y w1 ⟨r, b, rfl, g1, g2, g3⟩
    have HE := Lib.hid (And.intro (Nat.le_trans g1 (show 2300 ≤ 15000 by decide)) (And.intro g2 (HB.out.trans (g3.mono HB.out.size))))
    obtain ⟨⟨c0, c1, c2, c3, c4, c5, c6, c7, c8, c9, c10, c11, c12, c13⟩, -⟩ := cells14 ((g3.block w.heap.size (by simp)).trans (heap_alloc_new w (.cells #[.int .i64 3, .string nm, .slice p m c, .int .i64 op, .int .i64 ka, .string na, .int .i64 a1, .int .i64 a2, .string a3, .int .i64 kb, .string nb, .int .i64 b1, .int .i64 b2, .string b3] 57)))
    clear g1 g2 g3
    cases b with
    | false =>
      go_wp2_with fail
      go_quiet (fail)
      rename_i nq
      go_wp2_with fail
      go_ret2
      exact .no (HO.out.2.2 (by rw [HE.out.2.1]; rfl)) HE.out.1 (below_drewB HE.out.2.2 _)
    | true =>
      by_cases hp : at_.pred = []
      · rw [decide_eq_true hp] at he he'
        by_cases hm0 : m = 0
        · have hm1 : (m : Int) = 0 := by omega
          go_wp2_with fail
          go_quiet (fail)
          rename_i nq
          go_wp2_with fail
          go_ret2
          exact .yes ((HO.out.1 ⟨hp, List.eq_nil_of_length_eq_zero (by have := HM.out; omega)⟩).trans (by rw [HE.out.2.1]; rfl)) HE.out.1 (below_drewB HE.out.2.2 _)
        · have hm2 : ((m : Int) == 0) = false := by simp; omega
          go_wp2_with fail
          go_quiet (fail)
          rename_i nq
          go_wp2_with fail
          go_ret2
          exact .no (HO.out.2.1 (fun e => hm0 (by rw [HM.out, e.2]; rfl))) HE.out.1 (below_drewB HE.out.2.2 _)
      · rw [decide_eq_false hp] at he he'
        go_wp2_with fail
        go_quiet (fail)
        rename_i nq
        go_wp2_with fail
        go_ret2
        exact .no (HO.out.2.1 (fun e => hp e.1)) HE.out.1 (below_drewB HE.out.2.2 _)
  · rename_i hk1 hk2
    have HO := Lib.hid (lit_else (l := ⟨k, at_, op, ⟨ka, na', (a1, a2, a3)⟩, ⟨kb, nb', (b1, b2, b3)⟩⟩) hk1 hk2 hk)
    generalize litP ⟨k, at_, op, ⟨ka, na', (a1, a2, a3)⟩, ⟨kb, nb', (b1, b2, b3)⟩⟩ = o at *
    clear HN qa qb HA HBb HCm
    go_enter Tryd.func30, Tryd.ntmps30
    go_wp2_with fail
    go_ret2
    exact .no HO.out (empty_le _) (below_box _ _)
end
section
open Go Go.RowKit Go.Shelf

structure SmR (r : RuL) : Prop where
  head : SmA r.head
  few : r.body.length ≤ 8
  all_ : ∀ l ∈ r.body, SmLi l
structure SmD (d : DeL) : Prop where
  name : d.name.length ≤ 300
  few : d.types.length ≤ 12
structure SmO (o : OnL) : Prop where
  event : o.event.length ≤ 300
  few : o.params.length ≤ 12
  names : ∀ p ∈ o.params, p.1.length ≤ 300
  acts : o.acts.length ≤ 8
  all_ : ∀ a ∈ o.acts, SmA a.atom
theorem cell_at {w : World} {b : Nat} {cs : Array Value} {t : TypeId} (h : w.heap[b]? = some (.cells cs t (0, 0))) (i : Nat) (u : Value) (hu : cs[i]? = some u) : w.cell? ⟨b, i, none⟩ = some u := (cell_of_row _ b i _ _ (0, 0) h).trans hu
set_option maxRecDepth 100000 in
set_option maxHeartbeats 4000000 in
theorem prule_text (r : RuL) (u x : Value) (S : Nat → Prop) (w : World) (h : RowIn tmY S w u r.head.args) (h2 : RowIn liY S w x r.body) (hs : SmR r) (G : Glob w) : Calls Tryd.prog 20 #[.agg #[.string ⟨r.head.pred.toArray⟩, u, x]] w (InP 135000 (ruleP r) w) := by
  have H1 : Hid (∀ W, Below w.heap.size w W → Calls Tryd.prog 28 #[.agg #[.string ⟨r.head.pred.toArray⟩, u]] W (InP 14000 (atomP r.head) W)) := Lib.hid (fun W hb => patom_text r.head u S W (h.in_below hb) hs.head (G.below hb))
  have H2 : Hid (∀ W, Below w.heap.size w W → Calls Tryd.prog 29 #[.string ⟨#[32, 58, 45, 32]⟩, x, .func (.func 30) #[] #[]] W (InP 120026 (tailP [32, 58, 45, 32] litP r.body) W)) :=
    Lib.hid (fun W hb => (ptailLi_any (P := litP) (M := 15000) ⟨#[32, 58, 45, 32]⟩ x r.body S W (h2.in_below hb) (by decide) (by have := Nat.mul_le_mul_right (15000 + 2) hs.few; omega) (by have := hs.few; omega) (fun X us W' hm hb' hu => by
      obtain ⟨u', rfl, hu⟩ := hu
      exact pliteral_text X u' S W' hu (hs.all_ X hm) ((G.below hb).below hb'))).mono fun y w' hy => InP.le (by have := Nat.mul_le_mul_right (15000 + 2) hs.few; omega) hy)
  obtain ⟨p, c, rfl⟩ := h.shape
  obtain ⟨p', c', rfl⟩ := h2.shape
  unfold ruleP
  generalize atomP r.head = o1 at *
  generalize tailP [32, 58, 45, 32] litP r.body = o2 at *
  generalize (⟨r.head.pred.toArray⟩ : ByteArray) = nm at *
  clear h h2 hs G
  have HB := Lib.hid (below_box w (.cells #[.string nm, .slice p r.head.args.length c, .slice p' r.body.length c'] 27))
  go_enter Tryd.func20, Tryd.ntmps20
  go_wp2_with fail
  refine (H1.out _ HB.out).mono ?_
  rintro y w1 ⟨r1, b1, rfl, g1, g2, g3⟩
  have hx := (g3.block w.heap.size (by simp)).trans (heap_alloc_new w (.cells #[.string nm, .slice p r.head.args.length c, .slice p' r.body.length c'] 27))
  have c2 := cell_at hx 2 _ rfl
  have HE := Lib.hid (And.intro g1 (And.intro g2 (HB.out.trans (g3.mono HB.out.size))))
  clear g1 g2 g3 hx
  go_wp2_with fail
  refine (H2.out w1 HE.out.2.2).mono ?_
  rintro y w2 ⟨r2, b2, rfl, g1, g2, g3⟩
  have HE2 := Lib.hid (And.intro g1 (And.intro g2 (HE.out.2.2.trans (g3.mono HE.out.2.2.size))))
  clear g1 g2 g3 c2
  have z1 : (⟨#[46]⟩ : ByteArray).size = 1 := rfl
  have q1 := add_run r1 r2 (by have := HE.out.1; have := HE2.out.1; omega)
  have q2 := add_run (r1 ++ r2) ⟨#[46]⟩ (by have := HE.out.1; have := HE2.out.1; rw [ByteArray.size_append]; omega)
  have HS : Hid ((r1 ++ r2 ++ ⟨#[46]⟩).size ≤ 135000) := Lib.hid (by have := HE.out.1; have := HE2.out.1; rw [ByteArray.size_append, ByteArray.size_append]; omega)
  have HX : Hid ((r1 ++ r2 ++ ⟨#[46]⟩).data.toList = r1.data.toList ++ r2.data.toList ++ [46]) := Lib.hid (by simp)
  have HT := Lib.hid (two_in (fun a b => a ++ b ++ [46]) HE.out.2.1 HE2.out.2.1)
  clear z1
  cases b1 <;> cases b2
  all_goals
    go_wp2_with fail
    go_ret2
    refine ⟨_, _, rfl, HS.out, ?_, HE2.out.2.2⟩
    rw [HT.out, HX.out]
    rfl
set_option maxRecDepth 100000 in
set_option maxHeartbeats 4000000 in
theorem pdecl_text (d : DeL) (u : Value) (S : Nat → Prop) (w : World) (h : RowIn tyY S w u d.types) (hs : SmD d) (G : Glob w) : Calls Tryd.prog 22 #[.agg #[.string ⟨d.name.toArray⟩, .bool d.base, u]] w (InP 400 (declP d) w) := by
  have H1 : Hid (∀ W, Below w.heap.size w W → Calls Tryd.prog 35 #[.string ⟨d.name.toArray⟩, u, .func (.func 36) #[] #[]] W (InP 362 (namedP typeP d.name d.types) W)) :=
    Lib.hid (fun W hb => (pnamedTy_any (P := typeP) (M := 3) ⟨d.name.toArray⟩ u d.types S W (h.in_below hb) (by rw [str_len]; exact hs.name) (by have := hs.few; omega) (by have := hs.few; omega) (G.below hb) (fun X us W' hm hb' hu => by
      have hu : us = [.int .i64 X] := hu
      subst hu
      exact ptyped_text X 3 W' (Nat.le_refl _))).mono fun y w' hy => InP.le (by have := hs.few; omega) hy)
  obtain ⟨p, c, rfl⟩ := h.shape
  obtain ⟨db, dn, dt⟩ := d
  unfold declP
  simp only at H1 ⊢
  generalize namedP typeP dn dt = o1 at *
  generalize (⟨dn.toArray⟩ : ByteArray) = nm at *
  generalize dt.length = m at *
  clear h hs G
  have HB := Lib.hid (below_box w (.cells #[.string nm, .bool db, .slice p m c] 34))
  cases db
  all_goals
    go_enter Tryd.func22, Tryd.ntmps22
    go_wp2_with fail
    refine (H1.out _ HB.out).mono ?_
    rintro y w1 ⟨r1, b1, rfl, g1, g2, g3⟩
    have HE := Lib.hid (And.intro g1 (And.intro g2 (HB.out.trans (g3.mono HB.out.size))))
    clear g1 g2 g3
  · have z1 : (⟨#[46]⟩ : ByteArray).size = 1 := rfl
    have z2 : (⟨#[118, 105, 101, 119, 32]⟩ : ByteArray).size = 5 := rfl
    have q1 := add_run ⟨#[118, 105, 101, 119, 32]⟩ r1 (by have := HE.out.1; omega)
    have q2 := add_run (⟨#[118, 105, 101, 119, 32]⟩ ++ r1) ⟨#[46]⟩ (by have := HE.out.1; rw [ByteArray.size_append]; omega)
    have HS : Hid (((⟨#[118, 105, 101, 119, 32]⟩ : ByteArray) ++ r1 ++ ⟨#[46]⟩).size ≤ 400) := Lib.hid (by have := HE.out.1; rw [ByteArray.size_append, ByteArray.size_append]; omega)
    have HX : Hid (((⟨#[118, 105, 101, 119, 32]⟩ : ByteArray) ++ r1 ++ ⟨#[46]⟩).data.toList = [118, 105, 101, 119, 32] ++ r1.data.toList ++ [46]) := Lib.hid (by simp)
    clear z1 z2
    go_wp2_with fail
    go_ret2
    refine ⟨_, _, rfl, HS.out, ?_, HE.out.2.2⟩
    rw [map_in _ HE.out.2.1, HX.out]
    rfl
  · have z1 : (⟨#[46]⟩ : ByteArray).size = 1 := rfl
    have z2 : (⟨#[98, 97, 115, 101, 32]⟩ : ByteArray).size = 5 := rfl
    have q1 := add_run ⟨#[98, 97, 115, 101, 32]⟩ r1 (by have := HE.out.1; omega)
    have q2 := add_run (⟨#[98, 97, 115, 101, 32]⟩ ++ r1) ⟨#[46]⟩ (by have := HE.out.1; rw [ByteArray.size_append]; omega)
    have HS : Hid (((⟨#[98, 97, 115, 101, 32]⟩ : ByteArray) ++ r1 ++ ⟨#[46]⟩).size ≤ 400) := Lib.hid (by have := HE.out.1; rw [ByteArray.size_append, ByteArray.size_append]; omega)
    have HX : Hid (((⟨#[98, 97, 115, 101, 32]⟩ : ByteArray) ++ r1 ++ ⟨#[46]⟩).data.toList = [98, 97, 115, 101, 32] ++ r1.data.toList ++ [46]) := Lib.hid (by simp)
    clear z1 z2
    go_wp2_with fail
    go_ret2
    refine ⟨_, _, rfl, HS.out, ?_, HE.out.2.2⟩
    rw [map_in _ HE.out.2.1, HX.out]
    rfl
set_option maxRecDepth 100000 in
set_option maxHeartbeats 4000000 in
theorem pon_text (r : OnL) (u x : Value) (S : Nat → Prop) (w : World) (h : RowIn paY S w u r.params) (h2 : RowIn acY S w x r.acts) (hs : SmO r) (G : Glob w) : Calls Tryd.prog 21 #[.agg #[.string ⟨r.event.toArray⟩, u, x]] w (InP 130000 (onP r) w) := by
  have H1 : Hid (∀ W, Below w.heap.size w W → Calls Tryd.prog 31 #[.string ⟨r.event.toArray⟩, u, .func (.func 32) #[] #[]] W (InP 4046 (namedP paramP r.event r.params) W)) :=
    Lib.hid (fun W hb => (pnamedPa_any (P := paramP) (M := 310) ⟨r.event.toArray⟩ u r.params S W (h.in_below hb) (by rw [str_len]; exact hs.event) (by have := hs.few; omega) (by have := hs.few; omega) (G.below hb) (fun X us W' hm hb' hu => by
      have hu : us = [.string ⟨X.1.toArray⟩, .int .i64 X.2] := hu
      subst hu
      exact pparam_text X W' (hs.names X hm) ((G.below hb).below hb'))).mono fun y w' hy => InP.le (by have := hs.few; omega) hy)
  have H2 : Hid (∀ W, Below w.heap.size w W → Calls Tryd.prog 33 #[.string ⟨#[58, 32]⟩, x, .func (.func 34) #[] #[]] W (InP 120026 (tailP [58, 32] actP r.acts) W)) :=
    Lib.hid (fun W hb => (ptailAc_any (P := actP) (M := 15000) ⟨#[58, 32]⟩ x r.acts S W (h2.in_below hb) (by decide) (by have := hs.acts; omega) (by have := hs.acts; omega) (fun X us W' hm hb' hu => by
      obtain ⟨u', rfl, hu⟩ := hu
      exact pact_text X u' S W' hu (hs.all_ X hm) ((G.below hb).below hb'))).mono fun y w' hy => InP.le (by have := hs.acts; omega) hy)
  obtain ⟨p, c, rfl⟩ := h.shape
  obtain ⟨p', c', rfl⟩ := h2.shape
  unfold onP
  generalize namedP paramP r.event r.params = o1 at *
  generalize tailP [58, 32] actP r.acts = o2 at *
  generalize (⟨r.event.toArray⟩ : ByteArray) = nm at *
  clear h h2 hs G
  have HB := Lib.hid (below_box w (.cells #[.string nm, .slice p r.params.length c, .slice p' r.acts.length c'] 31))
  go_enter Tryd.func21, Tryd.ntmps21
  go_wp2_with fail
  refine (H1.out _ HB.out).mono ?_
  rintro y w1 ⟨r1, b1, rfl, g1, g2, g3⟩
  have hx := (g3.block w.heap.size (by simp)).trans (heap_alloc_new w (.cells #[.string nm, .slice p r.params.length c, .slice p' r.acts.length c'] 31))
  have c2 := cell_at hx 2 _ rfl
  have HE := Lib.hid (And.intro g1 (And.intro g2 (HB.out.trans (g3.mono HB.out.size))))
  clear g1 g2 g3 hx
  go_wp2_with fail
  refine (H2.out w1 HE.out.2.2).mono ?_
  rintro y w2 ⟨r2, b2, rfl, g1, g2, g3⟩
  have HE2 := Lib.hid (And.intro g1 (And.intro g2 (HE.out.2.2.trans (g3.mono HE.out.2.2.size))))
  clear g1 g2 g3 c2
  have z1 : (⟨#[46]⟩ : ByteArray).size = 1 := rfl
  have z2 : (⟨#[111, 110, 32]⟩ : ByteArray).size = 3 := rfl
  have q1 := add_run ⟨#[111, 110, 32]⟩ r1 (by have := HE.out.1; omega)
  have q2 := add_run (⟨#[111, 110, 32]⟩ ++ r1) r2 (by have := HE.out.1; have := HE2.out.1; rw [ByteArray.size_append]; omega)
  have q3 := add_run (⟨#[111, 110, 32]⟩ ++ r1 ++ r2) ⟨#[46]⟩ (by have := HE.out.1; have := HE2.out.1; rw [ByteArray.size_append, ByteArray.size_append]; omega)
  have HS : Hid (((⟨#[111, 110, 32]⟩ : ByteArray) ++ r1 ++ r2 ++ ⟨#[46]⟩).size ≤ 130000) := Lib.hid (by have := HE.out.1; have := HE2.out.1; rw [ByteArray.size_append, ByteArray.size_append, ByteArray.size_append]; omega)
  have HX : Hid (((⟨#[111, 110, 32]⟩ : ByteArray) ++ r1 ++ r2 ++ ⟨#[46]⟩).data.toList = [111, 110, 32] ++ r1.data.toList ++ r2.data.toList ++ [46]) := Lib.hid (by simp)
  have HT := Lib.hid (two_in (fun a b => wOn ++ [32] ++ a ++ b ++ [46]) HE.out.2.1 HE2.out.2.1)
  clear z1 z2
  cases b1 <;> cases b2
  all_goals
    go_wp2_with fail
    go_ret2
    refine ⟨_, _, rfl, HS.out, ?_, HE2.out.2.2⟩
    rw [HT.out, HX.out]
    rfl
theorem answer_yes (s : ByteArray) (w : World) : Calls Tryd.prog 19 #[.string s, .bool true] w fun e w' => e = .returned (.tuple #[.string s, .int .i64 0]) ∧ w = w' := by
  go_enter Tryd.func19, Tryd.ntmps19
  go_wp2_with fail
  go_ret2
  exact ⟨rfl, rfl⟩
theorem answer_no (s : ByteArray) (w : World) : Calls Tryd.prog 19 #[.string s, .bool false] w fun e w' => e = .returned (.tuple #[.string ⟨#[]⟩, .int .i64 140]) ∧ w = w' := by
  go_enter Tryd.func19, Tryd.ntmps19
  go_wp2_with fail
  go_ret2
  exact ⟨rfl, rfl⟩
end
end Go.Proofs.YtfjpiofinffpfaaDoor
