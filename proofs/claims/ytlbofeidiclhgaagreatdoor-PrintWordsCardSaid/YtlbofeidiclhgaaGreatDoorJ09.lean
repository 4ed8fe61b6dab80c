/-
  Two parts put together.
  Inside of print: named (Tm).
  Inside of print: named (Ty).
  Inside of print: named (Pa).
  Inside of print: tail (Li).
  Inside of print: tail (Ac).
  Inside of print: atoms, comparisons, parameters, acts.
-/
import Derived.Test.YtlbofeidiclhgaaGreatDoorJ06
import Derived.Test.YtlbofeidiclhgaaGreatDoorJ07
namespace Go.Proofs.YtlbofeidiclhgaaGreatDoor
section
open Go Go.RowKit Go.Shelf

theorem two_in {o1 o2 : Option (List UInt8)} {b1 b2 : Bool} {s1 s2 : ByteArray} (f : List UInt8 → List UInt8 → List UInt8) (h1 : o1 = if b1 = true then some s1.data.toList else none) (h2 : o2 = if b2 = true then some s2.data.toList else none) :
    two o1 o2 f = if (b1 && b2) = true then some (f s1.data.toList s2.data.toList) else none := by
  subst h1
  subst h2
  cases b1 <;> cases b2 <;> rfl
theorem map_in {o1 : Option (List UInt8)} {b1 : Bool} {s1 : ByteArray} (f : List UInt8 → List UInt8) (h1 : o1 = if b1 = true then some s1.data.toList else none) : o1.map f = if b1 = true then some (f s1.data.toList) else none := by
  subst h1
  cases b1 <;> rfl
theorem add_run (a b : ByteArray) (h : a.size + b.size ≤ 140737488355328) (W : World) : (Op.stringOp .add a b).run Tryz.prog W = .ok (.string (a ++ b)) W := run_string_add_sum (P := Tryz.prog) (w := W) _ _ (by omega)
end
section
open Go Go.RowKit Go.Shelf

set_option maxRecDepth 100000 in
set_option maxHeartbeats 4000000 in
theorem pnamedTm_any {P : TmL → Option (List UInt8)} {M : Nat} (s : ByteArray) (v : Value) (L : List TmL) (S : Nat → Prop) (w : World) (h : RowIn tmY S w v L) (hs : s.size ≤ 300) (hlen : L.length * (M + 2) ≤ 50000000) (hL : L.length ≤ 1000000) (G : Glob w)
    (HF : ∀ (X : TmL) (us : List Value) (W : World), X ∈ L → Below w.heap.size w W → tmY.is S W us X → Calls Tryz.prog 93 #[.agg us.toArray] W (InP M (P X) W)) :
    Calls Tryz.prog 92 #[.string s, v, .func (.func 93) #[] #[]] w (InP (302 + L.length * (M + 2)) (namedP P s.data.toList L) w) := by
  have H1 := Lib.hid (name_any s 300 w (by omega) hs G)
  have H2 : Hid (∀ W, Below w.heap.size w W → Calls Tryz.prog 126 #[v, .string ⟨#[44, 32]⟩, .func (.func 93) #[] #[]] W (InP (L.length * (M + 2)) (rowP P [44, 32] L) W)) :=
    Lib.hid (fun W hb => pjoinTm_any ⟨#[44, 32]⟩ v L S W (h.in_below hb) (by decide) hlen hL fun X us W' hm hb' hu => HF X us W' hm (hb.trans (hb'.mono hb.size)) hu)
  have HLen := Lib.hid hlen
  obtain ⟨p, c, rfl⟩ := h.shape
  obtain ⟨n, hn⟩ : ∃ n, n = L.length := ⟨_, rfl⟩
  unfold namedP
  generalize nameP s.data.toList = o1 at *
  generalize rowP P [44, 32] L = o2 at *
  rw [← hn] at H2 HLen ⊢
  clear h HF hlen hs hn hL G
  go_enter Tryz.func92, Tryz.ntmps92
  go_wp2_with fail
  refine H1.out.mono ?_
  rintro y w1 ⟨r, b, rfl, g1, g2, g3⟩
  have HE := Lib.hid (And.intro g1 (And.intro g2 g3))
  clear g1 g2 g3 H1
  go_wp2_with fail
  refine (H2.out w1 HE.out.2.2).mono ?_
  rintro y w2 ⟨r2, b2, rfl, g1, g2, g3⟩
  have HE2 := Lib.hid (And.intro g1 (And.intro g2 (HE.out.2.2.trans (g3.mono HE.out.2.2.size))))
  have HT := Lib.hid (two_in (fun a b => a ++ [40] ++ b ++ [41]) HE.out.2.1 g2)
  clear g1 g2 g3 H2
  have q1 := add_run r ⟨#[40]⟩ (by have := HE.out.1; rw [show (⟨#[40]⟩ : ByteArray).size = 1 from rfl]; omega)
  have q2 := add_run (r ++ ⟨#[40]⟩) r2 (by have := HE.out.1; have := HE2.out.1; have := HLen.out; rw [ByteArray.size_append, show (⟨#[40]⟩ : ByteArray).size = 1 from rfl]; omega)
  have q3 := add_run (r ++ ⟨#[40]⟩ ++ r2) ⟨#[41]⟩ (by have := HE.out.1; have := HE2.out.1; have := HLen.out; rw [ByteArray.size_append, ByteArray.size_append, show (⟨#[40]⟩ : ByteArray).size = 1 from rfl, show (⟨#[41]⟩ : ByteArray).size = 1 from rfl]; omega)
  have HS : Hid ((r ++ ⟨#[40]⟩ ++ r2 ++ ⟨#[41]⟩).size ≤ 302 + n * (M + 2)) := Lib.hid (by have := HE.out.1; have := HE2.out.1; rw [ByteArray.size_append, ByteArray.size_append, ByteArray.size_append, show (⟨#[40]⟩ : ByteArray).size = 1 from rfl, show (⟨#[41]⟩ : ByteArray).size = 1 from rfl]; omega)
  have HX : Hid ((r ++ ⟨#[40]⟩ ++ r2 ++ ⟨#[41]⟩).data.toList = r.data.toList ++ [40] ++ r2.data.toList ++ [41]) := Lib.hid (by simp)
  cases b <;> cases b2
  all_goals
    go_wp2_with fail
    go_ret2
    refine ⟨_, _, rfl, HS.out, ?_, HE2.out.2.2⟩
    rw [HT.out, HX.out]
    rfl
end
section
open Go Go.RowKit Go.Shelf

set_option maxRecDepth 100000 in
set_option maxHeartbeats 4000000 in
theorem pnamedTy_any {P : Int → Option (List UInt8)} {M : Nat} (s : ByteArray) (v : Value) (L : List Int) (S : Nat → Prop) (w : World) (h : RowIn tyY S w v L) (hs : s.size ≤ 300) (hlen : L.length * (M + 2) ≤ 50000000) (hL : L.length ≤ 1000000) (G : Glob w)
    (HF : ∀ (X : Int) (us : List Value) (W : World), X ∈ L → Below w.heap.size w W → tyY.is S W us X → Calls Tryz.prog 60 #[us.headD .nilIface] W (InP M (P X) W)) :
    Calls Tryz.prog 59 #[.string s, v, .func (.func 60) #[] #[]] w (InP (302 + L.length * (M + 2)) (namedP P s.data.toList L) w) := by
  have H1 := Lib.hid (name_any s 300 w (by omega) hs G)
  have H2 : Hid (∀ W, Below w.heap.size w W → Calls Tryz.prog 98 #[v, .string ⟨#[44, 32]⟩, .func (.func 60) #[] #[]] W (InP (L.length * (M + 2)) (rowP P [44, 32] L) W)) :=
    Lib.hid (fun W hb => pjoinTy_any ⟨#[44, 32]⟩ v L S W (h.in_below hb) (by decide) hlen hL fun X us W' hm hb' hu => HF X us W' hm (hb.trans (hb'.mono hb.size)) hu)
  have HLen := Lib.hid hlen
  obtain ⟨p, c, rfl⟩ := h.shape
  obtain ⟨n, hn⟩ : ∃ n, n = L.length := ⟨_, rfl⟩
  unfold namedP
  generalize nameP s.data.toList = o1 at *
  generalize rowP P [44, 32] L = o2 at *
  rw [← hn] at H2 HLen ⊢
  clear h HF hlen hs hn hL G
  go_enter Tryz.func59, Tryz.ntmps59
  go_wp2_with fail
  refine H1.out.mono ?_
  rintro y w1 ⟨r, b, rfl, g1, g2, g3⟩
  have HE := Lib.hid (And.intro g1 (And.intro g2 g3))
  clear g1 g2 g3 H1
  go_wp2_with fail
  refine (H2.out w1 HE.out.2.2).mono ?_
  rintro y w2 ⟨r2, b2, rfl, g1, g2, g3⟩
  have HE2 := Lib.hid (And.intro g1 (And.intro g2 (HE.out.2.2.trans (g3.mono HE.out.2.2.size))))
  have HT := Lib.hid (two_in (fun a b => a ++ [40] ++ b ++ [41]) HE.out.2.1 g2)
  clear g1 g2 g3 H2
  have q1 := add_run r ⟨#[40]⟩ (by have := HE.out.1; rw [show (⟨#[40]⟩ : ByteArray).size = 1 from rfl]; omega)
  have q2 := add_run (r ++ ⟨#[40]⟩) r2 (by have := HE.out.1; have := HE2.out.1; have := HLen.out; rw [ByteArray.size_append, show (⟨#[40]⟩ : ByteArray).size = 1 from rfl]; omega)
  have q3 := add_run (r ++ ⟨#[40]⟩ ++ r2) ⟨#[41]⟩ (by have := HE.out.1; have := HE2.out.1; have := HLen.out; rw [ByteArray.size_append, ByteArray.size_append, show (⟨#[40]⟩ : ByteArray).size = 1 from rfl, show (⟨#[41]⟩ : ByteArray).size = 1 from rfl]; omega)
  have HS : Hid ((r ++ ⟨#[40]⟩ ++ r2 ++ ⟨#[41]⟩).size ≤ 302 + n * (M + 2)) := Lib.hid (by have := HE.out.1; have := HE2.out.1; rw [ByteArray.size_append, ByteArray.size_append, ByteArray.size_append, show (⟨#[40]⟩ : ByteArray).size = 1 from rfl, show (⟨#[41]⟩ : ByteArray).size = 1 from rfl]; omega)
  have HX : Hid ((r ++ ⟨#[40]⟩ ++ r2 ++ ⟨#[41]⟩).data.toList = r.data.toList ++ [40] ++ r2.data.toList ++ [41]) := Lib.hid (by simp)
  cases b <;> cases b2
  all_goals
    go_wp2_with fail
    go_ret2
    refine ⟨_, _, rfl, HS.out, ?_, HE2.out.2.2⟩
    rw [HT.out, HX.out]
    rfl
end
section
open Go Go.RowKit Go.Shelf

set_option maxRecDepth 100000 in
set_option maxHeartbeats 4000000 in
theorem pnamedPa_any {P : (List UInt8 × Int) → Option (List UInt8)} {M : Nat} (s : ByteArray) (v : Value) (L : List (List UInt8 × Int)) (S : Nat → Prop) (w : World) (h : RowIn paY S w v L) (hs : s.size ≤ 300) (hlen : L.length * (M + 2) ≤ 50000000) (hL : L.length ≤ 1000000) (G : Glob w)
    (HF : ∀ (X : (List UInt8 × Int)) (us : List Value) (W : World), X ∈ L → Below w.heap.size w W → paY.is S W us X → Calls Tryz.prog 63 #[.agg us.toArray] W (InP M (P X) W)) :
    Calls Tryz.prog 62 #[.string s, v, .func (.func 63) #[] #[]] w (InP (302 + L.length * (M + 2)) (namedP P s.data.toList L) w) := by
  have H1 := Lib.hid (name_any s 300 w (by omega) hs G)
  have H2 : Hid (∀ W, Below w.heap.size w W → Calls Tryz.prog 99 #[v, .string ⟨#[44, 32]⟩, .func (.func 63) #[] #[]] W (InP (L.length * (M + 2)) (rowP P [44, 32] L) W)) :=
    Lib.hid (fun W hb => pjoinPa_any ⟨#[44, 32]⟩ v L S W (h.in_below hb) (by decide) hlen hL fun X us W' hm hb' hu => HF X us W' hm (hb.trans (hb'.mono hb.size)) hu)
  have HLen := Lib.hid hlen
  obtain ⟨p, c, rfl⟩ := h.shape
  obtain ⟨n, hn⟩ : ∃ n, n = L.length := ⟨_, rfl⟩
  unfold namedP
  generalize nameP s.data.toList = o1 at *
  generalize rowP P [44, 32] L = o2 at *
  rw [← hn] at H2 HLen ⊢
  clear h HF hlen hs hn hL G
  go_enter Tryz.func62, Tryz.ntmps62
  go_wp2_with fail
  refine H1.out.mono ?_
  rintro y w1 ⟨r, b, rfl, g1, g2, g3⟩
  have HE := Lib.hid (And.intro g1 (And.intro g2 g3))
  clear g1 g2 g3 H1
  go_wp2_with fail
  refine (H2.out w1 HE.out.2.2).mono ?_
  rintro y w2 ⟨r2, b2, rfl, g1, g2, g3⟩
  have HE2 := Lib.hid (And.intro g1 (And.intro g2 (HE.out.2.2.trans (g3.mono HE.out.2.2.size))))
  have HT := Lib.hid (two_in (fun a b => a ++ [40] ++ b ++ [41]) HE.out.2.1 g2)
  clear g1 g2 g3 H2
  have q1 := add_run r ⟨#[40]⟩ (by have := HE.out.1; rw [show (⟨#[40]⟩ : ByteArray).size = 1 from rfl]; omega)
  have q2 := add_run (r ++ ⟨#[40]⟩) r2 (by have := HE.out.1; have := HE2.out.1; have := HLen.out; rw [ByteArray.size_append, show (⟨#[40]⟩ : ByteArray).size = 1 from rfl]; omega)
  have q3 := add_run (r ++ ⟨#[40]⟩ ++ r2) ⟨#[41]⟩ (by have := HE.out.1; have := HE2.out.1; have := HLen.out; rw [ByteArray.size_append, ByteArray.size_append, show (⟨#[40]⟩ : ByteArray).size = 1 from rfl, show (⟨#[41]⟩ : ByteArray).size = 1 from rfl]; omega)
  have HS : Hid ((r ++ ⟨#[40]⟩ ++ r2 ++ ⟨#[41]⟩).size ≤ 302 + n * (M + 2)) := Lib.hid (by have := HE.out.1; have := HE2.out.1; rw [ByteArray.size_append, ByteArray.size_append, ByteArray.size_append, show (⟨#[40]⟩ : ByteArray).size = 1 from rfl, show (⟨#[41]⟩ : ByteArray).size = 1 from rfl]; omega)
  have HX : Hid ((r ++ ⟨#[40]⟩ ++ r2 ++ ⟨#[41]⟩).data.toList = r.data.toList ++ [40] ++ r2.data.toList ++ [41]) := Lib.hid (by simp)
  cases b <;> cases b2
  all_goals
    go_wp2_with fail
    go_ret2
    refine ⟨_, _, rfl, HS.out, ?_, HE2.out.2.2⟩
    rw [HT.out, HX.out]
    rfl
end
section
open Go Go.RowKit Go.Shelf

set_option maxRecDepth 100000 in
set_option maxHeartbeats 4000000 in
theorem ptailLi_any {P : LiL → Option (List UInt8)} {M : Nat} (s : ByteArray) (v : Value) (L : List LiL) (S : Nat → Prop) (w : World) (h : RowIn liY S w v L) (hs : s.size ≤ 10) (hlen : L.length * (M + 2) ≤ 50000000) (hL : L.length ≤ 1000000)
    (HF : ∀ (X : LiL) (us : List Value) (W : World), X ∈ L → Below w.heap.size w W → liY.is S W us X → Calls Tryz.prog 56 #[.agg us.toArray] W (InP M (P X) W)) :
    Calls Tryz.prog 55 #[.string s, v, .func (.func 56) #[] #[]] w (InP (10 + L.length * (M + 2)) (tailP s.data.toList P L) w) := by
  obtain ⟨n, hn⟩ : ∃ n, n = L.length := ⟨_, rfl⟩
  by_cases h0 : n = 0
  · have HO := Lib.hid (show tailP s.data.toList P L = some [] by unfold tailP; rw [if_pos (by omega)])
    obtain ⟨p, c, rfl⟩ := h.shape
    rw [← hn, h0]
    generalize tailP s.data.toList P L = o at *
    clear h HF hlen hs hn hL h0
    go_enter Tryz.func55, Tryz.ntmps55
    go_wp2_with fail
    go_ret2
    exact .yes HO.out (empty_le _) (Below.refl _ _)
  have HO := Lib.hid (show tailP s.data.toList P L = (rowP P [44, 32] L).map (s.data.toList ++ ·) by unfold tailP; rw [if_neg (by omega)])
  have H2 : Hid (Calls Tryz.prog 94 #[v, .string ⟨#[44, 32]⟩, .func (.func 56) #[] #[]] w (InP (L.length * (M + 2)) (rowP P [44, 32] L) w)) :=
    Lib.hid (pjoinLi_any ⟨#[44, 32]⟩ v L S w h (by decide) hlen hL HF)
  have HLen := Lib.hid hlen
  have HSs := Lib.hid hs
  obtain ⟨p, c, rfl⟩ := h.shape
  generalize tailP s.data.toList P L = o at *
  generalize rowP P [44, 32] L = o2 at *
  rw [← hn] at H2 HLen ⊢
  have h1 : ¬ (n : Int) = 0 := by omega
  clear h HF hlen hs hn hL
  go_enter Tryz.func55, Tryz.ntmps55
  go_wp2_with fail
  refine H2.out.mono ?_
  rintro y w2 ⟨r2, b2, rfl, g1, g2, g3⟩
  have HE2 := Lib.hid (And.intro g1 (And.intro g2 g3))
  have HT := Lib.hid (map_in (s.data.toList ++ ·) g2)
  clear g1 g2 g3 H2
  have q1 := add_run s r2 (by have := HSs.out; have := HE2.out.1; have := HLen.out; omega)
  have HS : Hid ((s ++ r2).size ≤ 10 + n * (M + 2)) := Lib.hid (by have := HSs.out; have := HE2.out.1; rw [ByteArray.size_append]; omega)
  have HX : Hid ((s ++ r2).data.toList = s.data.toList ++ r2.data.toList) := Lib.hid (by simp)
  go_wp2_with fail
  go_ret2
  refine ⟨_, _, rfl, HS.out, ?_, HE2.out.2.2⟩
  rw [HO.out, HT.out, HX.out]
end
section
open Go Go.RowKit Go.Shelf

set_option maxRecDepth 100000 in
set_option maxHeartbeats 4000000 in
theorem ptailAc_any {P : ActL → Option (List UInt8)} {M : Nat} (s : ByteArray) (v : Value) (L : List ActL) (S : Nat → Prop) (w : World) (h : RowIn acY S w v L) (hs : s.size ≤ 10) (hlen : L.length * (M + 2) ≤ 50000000) (hL : L.length ≤ 1000000)
    (HF : ∀ (X : ActL) (us : List Value) (W : World), X ∈ L → Below w.heap.size w W → acY.is S W us X → Calls Tryz.prog 65 #[.agg us.toArray] W (InP M (P X) W)) :
    Calls Tryz.prog 64 #[.string s, v, .func (.func 65) #[] #[]] w (InP (10 + L.length * (M + 2)) (tailP s.data.toList P L) w) := by
  obtain ⟨n, hn⟩ : ∃ n, n = L.length := ⟨_, rfl⟩
  by_cases h0 : n = 0
  · have HO := Lib.hid (show tailP s.data.toList P L = some [] by unfold tailP; rw [if_pos (by omega)])
    obtain ⟨p, c, rfl⟩ := h.shape
    rw [← hn, h0]
    generalize tailP s.data.toList P L = o at *
    clear h HF hlen hs hn hL h0
    go_enter Tryz.func64, Tryz.ntmps64
    go_wp2_with fail
    go_ret2
    exact .yes HO.out (empty_le _) (Below.refl _ _)
  have HO := Lib.hid (show tailP s.data.toList P L = (rowP P [44, 32] L).map (s.data.toList ++ ·) by unfold tailP; rw [if_neg (by omega)])
  have H2 : Hid (Calls Tryz.prog 100 #[v, .string ⟨#[44, 32]⟩, .func (.func 65) #[] #[]] w (InP (L.length * (M + 2)) (rowP P [44, 32] L) w)) :=
    Lib.hid (pjoinAc_any ⟨#[44, 32]⟩ v L S w h (by decide) hlen hL HF)
  have HLen := Lib.hid hlen
  have HSs := Lib.hid hs
  obtain ⟨p, c, rfl⟩ := h.shape
  generalize tailP s.data.toList P L = o at *
  generalize rowP P [44, 32] L = o2 at *
  rw [← hn] at H2 HLen ⊢
  have h1 : ¬ (n : Int) = 0 := by omega
  clear h HF hlen hs hn hL
  go_enter Tryz.func64, Tryz.ntmps64
  go_wp2_with fail
  refine H2.out.mono ?_
  rintro y w2 ⟨r2, b2, rfl, g1, g2, g3⟩
  have HE2 := Lib.hid (And.intro g1 (And.intro g2 g3))
  have HT := Lib.hid (map_in (s.data.toList ++ ·) g2)
  clear g1 g2 g3 H2
  have q1 := add_run s r2 (by have := HSs.out; have := HE2.out.1; have := HLen.out; omega)
  have HS : Hid ((s ++ r2).size ≤ 10 + n * (M + 2)) := Lib.hid (by have := HSs.out; have := HE2.out.1; rw [ByteArray.size_append]; omega)
  have HX : Hid ((s ++ r2).data.toList = s.data.toList ++ r2.data.toList) := Lib.hid (by simp)
  go_wp2_with fail
  go_ret2
  refine ⟨_, _, rfl, HS.out, ?_, HE2.out.2.2⟩
  rw [HO.out, HT.out, HX.out]
end
section
open Go Go.RowKit Go.Shelf

theorem InP.le {M M' : Nat} {o : Option (List UInt8)} {w w' : World} {e : Ending} (hM : M ≤ M') (h : InP M o w e w') : InP M' o w e w' := by
  obtain ⟨s, b, h1, h2, h3, h4⟩ := h
  exact ⟨s, b, h1, Nat.le_trans h2 hM, h3, h4⟩
structure SmA (a : AtL) : Prop where
  pred : a.pred.length ≤ 300
  few : a.args.length ≤ 12
  all_ : ∀ t ∈ a.args, SmT t
theorem two_newT (w : World) (o o' : Obj) : ((w.alloc o).alloc o').heap[w.heap.size + 1]? = some o' := by
  have h := heap_alloc_new (w.alloc o) o'
  rwa [show (w.alloc o).heap.size = w.heap.size + 1 by simp] at h
theorem str_len (l : List UInt8) : (⟨l.toArray⟩ : ByteArray).size = l.length := by rw [Lib.size_eq]
set_option maxRecDepth 100000 in
set_option maxHeartbeats 4000000 in
theorem patom_text (a : AtL) (u : Value) (S : Nat → Prop) (w : World) (h : RowIn tmY S w u a.args) (hs : SmA a) (G : Glob w) : Calls Tryz.prog 54 #[.agg #[.string ⟨a.pred.toArray⟩, u]] w (InP 14000 (atomP a) w) := by
  have HN : Hid (∀ W, Below w.heap.size w W → Calls Tryz.prog 92 #[.string ⟨a.pred.toArray⟩, u, .func (.func 93) #[] #[]] W (InP 14000 (atomP a) W)) :=
    Lib.hid (fun W hb => (pnamedTm_any (P := termP) (M := 1100) ⟨a.pred.toArray⟩ u a.args S W (h.in_below hb) (by rw [str_len]; exact hs.pred) (by have := Nat.mul_le_mul_right (1100 + 2) hs.few; omega) (by have := hs.few; omega) (G.below hb) (fun X us W' hm hb' hu => by
      have hu : us = cellT X := hu
      subst hu
      exact term_any X W' (hs.all_ X hm) ((G.below hb).below hb'))).mono fun y w' hy => InP.le (by have := Nat.mul_le_mul_right (1100 + 2) hs.few; omega) hy)
  obtain ⟨p, c, rfl⟩ := h.shape
  generalize atomP a = o at *
  generalize (⟨a.pred.toArray⟩ : ByteArray) = nm at *
  clear h hs G
  have HB := Lib.hid (below_box w (.cells #[.string nm, .slice p a.args.length c] 24))
  go_enter Tryz.func54, Tryz.ntmps54
  go_wp2_with fail
  refine (HN.out _ HB.out).mono ?_
  rintro y w1 ⟨r, b, rfl, g1, g2, g3⟩
  have HE := Lib.hid (And.intro g1 (And.intro g2 (HB.out.trans (g3.mono HB.out.size))))
  clear g1 g2 g3
  go_wp2_with fail
  go_ret2
  exact ⟨r, b, rfl, HE.out.1, HE.out.2.1, HE.out.2.2⟩
set_option maxRecDepth 100000 in
set_option maxHeartbeats 4000000 in
theorem comparison_any (a b : TmL) (n : Int) (w : World) (ha : SmT a) (hb : SmT b) (G : Glob w) : Calls Tryz.prog 95 #[valT a, .int .i64 n, valT b] w (InP 2300 (cmpP a n b) w) := by
  have HA : Hid (∀ W, Below w.heap.size w W → Calls Tryz.prog 93 #[valT a] W (InP 1100 (termP a) W)) := Lib.hid (fun W h => term_any a W ha (G.below h))
  have HC : Hid (∀ W, Below w.heap.size w W → Calls Tryz.prog 93 #[valT b] W (InP 1100 (termP b) W)) := Lib.hid (fun W h => term_any b W hb (G.below h))
  obtain ⟨k, nm, v1, v2, v3⟩ := a
  obtain ⟨k', nm', v1', v2', v3'⟩ := b
  unfold cmpP
  generalize termP _ = oa at *
  generalize termP _ = ob at *
  unfold valT at HA HC ⊢
  simp only at HA HC ⊢
  generalize (⟨nm.toArray⟩ : ByteArray) = s at *
  generalize (⟨nm'.toArray⟩ : ByteArray) = s' at *
  clear ha hb G
  have HB := Lib.hid (below_box2 w (.cells #[.int .i64 k, .string s, .int .i64 v1, .int .i64 v2, .string v3] 71) (.cells #[.int .i64 k', .string s', .int .i64 v1', .int .i64 v2', .string v3'] 71))
  go_enter Tryz.func95, Tryz.ntmps95
  go_wp2_with fail
  refine (HA.out _ HB.out).mono ?_
  rintro y w1 ⟨r, b1, rfl, g1, g2, g3⟩
  have hx := (g3.block (w.heap.size + 1) (by simp)).trans (two_newT w (.cells #[.int .i64 k, .string s, .int .i64 v1, .int .i64 v2, .string v3] 71) (.cells #[.int .i64 k', .string s', .int .i64 v1', .int .i64 v2', .string v3'] 71))
  have HE := Lib.hid (And.intro g1 (And.intro g2 (HB.out.trans (g3.mono HB.out.size))))
  clear g1 g2 g3
  have HO := Lib.hid (operator_any n)
  go_wp2_with fail
  refine (HO.out w1).mono ?_
  rintro y w2 ⟨r2, b2, rfl, g1, g2, g3⟩
  have hx2 := (g3.block (w.heap.size + 1) (Array.getElem?_eq_some_iff.1 hx).1).trans hx
  have HE2 := Lib.hid (And.intro g1 (And.intro g2 (HE.out.2.2.trans (g3.mono HE.out.2.2.size))))
  obtain ⟨c0, c1, c2, c3, c4⟩ := five_cells hx2
  clear g1 g2 g3 hx hx2 HO
  go_wp2_with fail
  refine (HC.out w2 HE2.out.2.2).mono ?_
  rintro y w3 ⟨r3, b3, rfl, g1, g2, g3⟩
  have HE3 := Lib.hid (And.intro g1 (And.intro g2 (HE2.out.2.2.trans (g3.mono HE2.out.2.2.size))))
  clear c0 c1 c2 c3 c4 g1 g2 g3
  have z1 : (⟨#[32]⟩ : ByteArray).size = 1 := rfl
  have q1 := add_run r ⟨#[32]⟩ (by have := HE.out.1; omega)
  have q2 := add_run (r ++ ⟨#[32]⟩) r2 (by have := HE.out.1; have := HE2.out.1; rw [ByteArray.size_append]; omega)
  have q3 := add_run (r ++ ⟨#[32]⟩ ++ r2) ⟨#[32]⟩ (by have := HE.out.1; have := HE2.out.1; rw [ByteArray.size_append, ByteArray.size_append]; omega)
  have q4 := add_run (r ++ ⟨#[32]⟩ ++ r2 ++ ⟨#[32]⟩) r3 (by have := HE.out.1; have := HE2.out.1; have := HE3.out.1; rw [ByteArray.size_append, ByteArray.size_append, ByteArray.size_append]; omega)
  have HS : Hid ((r ++ ⟨#[32]⟩ ++ r2 ++ ⟨#[32]⟩ ++ r3).size ≤ 2300) := Lib.hid (by have := HE.out.1; have := HE2.out.1; have := HE3.out.1; rw [ByteArray.size_append, ByteArray.size_append, ByteArray.size_append, ByteArray.size_append]; omega)
  have HX : Hid ((r ++ ⟨#[32]⟩ ++ r2 ++ ⟨#[32]⟩ ++ r3).data.toList = r.data.toList ++ [32] ++ r2.data.toList ++ [32] ++ r3.data.toList) := Lib.hid (by simp)
  have HT : Hid (two (two oa (opP n) fun x y => x ++ [32] ++ y) ob (fun x y => x ++ [32] ++ y) = if ((b1 && b2) && b3) = true then some (r.data.toList ++ [32] ++ r2.data.toList ++ [32] ++ r3.data.toList) else none) := Lib.hid (by
    rw [HE.out.2.1, HE2.out.2.1, HE3.out.2.1]
    cases b1 <;> cases b2 <;> cases b3 <;> rfl)
  clear z1
  cases b1 <;> cases b2 <;> cases b3
  all_goals
    go_wp2_with fail
    go_ret2
    refine ⟨_, _, rfl, HS.out, ?_, HE3.out.2.2⟩
    rw [HT.out, HX.out]
    rfl
set_option maxRecDepth 100000 in
set_option maxHeartbeats 4000000 in
theorem pparam_text (p : List UInt8 × Int) (w : World) (hs : p.1.length ≤ 300) (G : Glob w) : Calls Tryz.prog 63 #[.agg #[.string ⟨p.1.toArray⟩, .int .i64 p.2]] w (InP 310 (paramP p) w) := by
  obtain ⟨l, n⟩ := p
  obtain ⟨nm, hnm⟩ : ∃ nm : ByteArray, nm = ⟨l.toArray⟩ := ⟨_, rfl⟩
  have hl : nm.data.toList = l := by rw [hnm]
  have hz : nm.size ≤ 300 := by rw [hnm, str_len]; exact hs
  show Calls Tryz.prog 63 #[.agg #[.string ⟨l.toArray⟩, .int .i64 n]] w (InP 310 (paramP (l, n)) w)
  unfold paramP
  simp only
  rw [← hnm]
  have HV : Hid (∀ W, Below w.heap.size w W → Calls Tryz.prog 67 #[.string nm] W (InP 300 (varP l) W)) := Lib.hid (fun W h => by rw [← hl]; exact variable_any nm 300 W (by omega) hz (G.below h))
  have HY := Lib.hid (fun W => ptyped_text n 3 W (Nat.le_refl _))
  generalize varP l = oa at *
  generalize typeP n = ob at *
  clear hs G hnm hl hz
  have HB := Lib.hid (below_box w (.cells #[.string nm, .int .i64 n] 78))
  go_enter Tryz.func63, Tryz.ntmps63
  go_wp2_with fail
  refine (HV.out _ HB.out).mono ?_
  rintro y w1 ⟨r, b1, rfl, g1, g2, g3⟩
  have hx := (g3.block w.heap.size (by simp)).trans (heap_alloc_new w (.cells #[.string nm, .int .i64 n] 78))
  have c1 : w1.cell? ⟨w.heap.size, 1, none⟩ = some (.int .i64 n) := (cell_of_row _ _ 1 _ _ (0, 0) hx).trans rfl
  have HE := Lib.hid (And.intro g1 (And.intro g2 (HB.out.trans (g3.mono HB.out.size))))
  clear g1 g2 g3 hx
  go_wp2_with fail
  refine (HY.out w1).mono ?_
  rintro y w2 ⟨r2, b2, rfl, g1, g2, g3⟩
  have HE2 := Lib.hid (And.intro g1 (And.intro g2 (HE.out.2.2.trans (g3.mono HE.out.2.2.size))))
  clear g1 g2 g3 c1
  have z1 : (⟨#[32]⟩ : ByteArray).size = 1 := rfl
  have q1 := add_run r ⟨#[32]⟩ (by have := HE.out.1; omega)
  have q2 := add_run (r ++ ⟨#[32]⟩) r2 (by have := HE.out.1; have := HE2.out.1; rw [ByteArray.size_append]; omega)
  have HS : Hid ((r ++ ⟨#[32]⟩ ++ r2).size ≤ 310) := Lib.hid (by have := HE.out.1; have := HE2.out.1; rw [ByteArray.size_append, ByteArray.size_append]; omega)
  have HX : Hid ((r ++ ⟨#[32]⟩ ++ r2).data.toList = r.data.toList ++ [32] ++ r2.data.toList) := Lib.hid (by simp)
  have HT := Lib.hid (two_in (fun a b => a ++ [32] ++ b) HE.out.2.1 HE2.out.2.1)
  clear z1
  cases b1 <;> cases b2
  all_goals
    go_wp2_with fail
    go_ret2
    refine ⟨_, _, rfl, HS.out, ?_, HE2.out.2.2⟩
    rw [HT.out, HX.out]
    rfl
set_option maxRecDepth 100000 in
set_option maxHeartbeats 4000000 in
theorem pact_text (a : ActL) (u : Value) (S : Nat → Prop) (w : World) (h : RowIn tmY S w u a.atom.args) (hs : SmA a.atom) (G : Glob w) : Calls Tryz.prog 65 #[.agg #[.bool a.plus, .string ⟨a.atom.pred.toArray⟩, u]] w (InP 15000 (actP a) w) := by
  have HN : Hid (∀ W, Below w.heap.size w W → Calls Tryz.prog 54 #[.agg #[.string ⟨a.atom.pred.toArray⟩, u]] W (InP 14000 (atomP a.atom) W)) := Lib.hid (fun W hb => patom_text a.atom u S W (h.in_below hb) hs (G.below hb))
  obtain ⟨p, c, rfl⟩ := h.shape
  obtain ⟨pl, at_⟩ := a
  unfold actP
  simp only at HN ⊢
  generalize at_.args.length = m at *
  generalize atomP at_ = o at *
  generalize (⟨at_.pred.toArray⟩ : ByteArray) = nm at *
  clear h hs G
  have HB := Lib.hid (below_box w (.cells #[.bool pl, .string nm, .slice p m c] 80))
  cases pl
  all_goals
    go_enter Tryz.func65, Tryz.ntmps65
    go_wp2_with fail
    refine (HN.out _ HB.out).mono ?_
    rintro y w1 ⟨r, b, rfl, g1, g2, g3⟩
    have HE := Lib.hid (And.intro g1 (And.intro g2 (HB.out.trans (g3.mono HB.out.size))))
    clear g1 g2 g3
  · have q1 := add_run ⟨#[45]⟩ r (by have := HE.out.1; rw [show (⟨#[45]⟩ : ByteArray).size = 1 from rfl]; omega)
    have HS : Hid (((⟨#[45]⟩ : ByteArray) ++ r).size ≤ 15000) := Lib.hid (by have := HE.out.1; rw [ByteArray.size_append, show (⟨#[45]⟩ : ByteArray).size = 1 from rfl]; omega)
    have HX : Hid (((⟨#[45]⟩ : ByteArray) ++ r).data.toList = [45] ++ r.data.toList) := Lib.hid (by simp)
    go_wp2_with fail
    go_ret2
    refine ⟨_, _, rfl, HS.out, ?_, HE.out.2.2⟩
    rw [map_in _ HE.out.2.1, HX.out]
    rfl
  · have q1 := add_run ⟨#[43]⟩ r (by have := HE.out.1; rw [show (⟨#[43]⟩ : ByteArray).size = 1 from rfl]; omega)
    have HS : Hid (((⟨#[43]⟩ : ByteArray) ++ r).size ≤ 15000) := Lib.hid (by have := HE.out.1; rw [ByteArray.size_append, show (⟨#[43]⟩ : ByteArray).size = 1 from rfl]; omega)
    have HX : Hid (((⟨#[43]⟩ : ByteArray) ++ r).data.toList = [43] ++ r.data.toList) := Lib.hid (by simp)
    go_wp2_with fail
    go_ret2
    refine ⟨_, _, rfl, HS.out, ?_, HE.out.2.2⟩
    rw [map_in _ HE.out.2.1, HX.out]
    rfl
end
end Go.Proofs.YtlbofeidiclhgaaGreatDoor
