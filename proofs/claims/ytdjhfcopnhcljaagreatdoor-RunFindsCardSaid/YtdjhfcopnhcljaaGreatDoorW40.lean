/-
  Disk.Write at a file of which nothing is loose: any bytes, from any place on.
-/
import Derived.Test.YtdjhfcopnhcljaaGreatDoorW39
namespace Go.Proofs.YtdjhfcopnhcljaaGreatDoor
section
open Go Go.RowKit Go.Maps Go.WideMaps

/-- The bytes behind a write of all of B. -/
def put_ (L B : List UInt8) (at_ : Nat) : List UInt8 := L.take at_ ++ B ++ L.drop (at_ + B.length)
theorem put_eq (L B : List UInt8) (at_ : Nat) (ha : at_ ≤ L.length) : over L B at_ (min B.length (L.length - at_)) ++ B.drop (min B.length (L.length - at_)) = put_ L B at_ := by
  unfold over put_
  by_cases h : B.length ≤ L.length - at_
  · rw [Nat.min_eq_left h, List.take_of_length_le (Nat.le_refl _), List.drop_of_length_le (Nat.le_refl _), List.append_nil]
  · rw [Nat.min_eq_right (by omega)]
    have e1 : L.drop (at_ + (L.length - at_)) = [] := List.drop_of_length_le (by omega)
    have e2 : L.drop (at_ + B.length) = [] := List.drop_of_length_le (by omega)
    rw [e1, e2, List.append_nil, List.append_nil, List.append_assoc, List.take_append_drop]
theorem OwnF.shape {n : Nat} {w : World} {v : Value} {l : List UInt8} (h : OwnF n w v l) : ∃ p c, v = .slice p l.length c := by
  rcases h.form with ⟨rfl, rfl⟩ | ⟨b, c, rfl, -⟩
  · exact ⟨none, 0, rfl⟩
  · exact ⟨_, c, rfl⟩
theorem OwnF.shape3 {n : Nat} {w : World} {v : Value} {l : List UInt8} (h : OwnF n w v l) : ∃ p N c, v = .slice p N c := by
  obtain ⟨p, c, e⟩ := h.shape
  exact ⟨p, _, c, e⟩
theorem wr_mid {n0 : Nat} {w w3 : World} {d F O D X g : Nat} {room next : Int} {nf no no' nd nx m : Nat} {ff oo oo' dd xx : DataW Value} {chg : Value} {xs : List Value}
    (h : DkS n0 w d F O D X room next nf no nd nx m ff oo dd xx chg xs) (hm : MapAt w3 Tryz.prog 225 O no' oo') (hg : Grow (fun b => b = O ∨ b = g) w w3) (ap : g ≠ d ∧ g ≠ F ∧ g ≠ O ∧ g ≠ D ∧ g ≠ X ∧ chg.ownBlock ≠ some g) : DkS n0 w3 d F O D X room next nf no' nd nx m ff oo' dd xx chg xs := by
  obtain ⟨a1, a2, a3, a4, a5, a6, a7, a8, a9, a10⟩ := h.apart
  refine ⟨h.on.grow hg ?_, h.files.grow hg ?_, hm, h.dir.grow hg ?_, h.fixed.grow hg ?_, own_grow h.own hg ?_, h.apart, h.chgs, h.low⟩
  · rintro (e | e); exact a2 e; exact ap.1 e.symm
  · rintro (e | e); exact a5 e; exact ap.2.1 e.symm
  · rintro (e | e); exact a8 e.symm; exact ap.2.2.2.1 e.symm
  · rintro (e | e); exact a9 e.symm; exact ap.2.2.2.2.1 e.symm
  · intro k hk
    rintro (rfl | rfl)
    · exact (h.chgs _ hk).2.2.1 rfl
    · exact ap.2.2.2.2.2 hk
theorem Olds.lower {w : World} {n1 n2 : Nat} {oo : DataW Value} {f : Nat → Option (List UInt8)} (h : Olds w n1 oo f) (hn : n2 ≤ n1) : Olds w n2 oo f :=
  ⟨h.is, h.no, fun i l hl => by
    obtain ⟨hi, v, h1, h2, h3⟩ := h.yes i l hl
    exact ⟨hi, v, h1, h2, h3.base hn⟩, h.only⟩
theorem RdIn.from_ {n : Nat} {w : World} {p : Option Addr} {c : Nat} {l : List UInt8} (h : RdIn n w (.slice p l.length c) l) {k : Nat} (hk : k ≤ l.length) (hc : l.length ≤ c) : RdIn n w (fromV (.slice p l.length c) k) (l.drop k) := by
  rcases h with ⟨rfl, h | ⟨a, cap, h⟩⟩ | ⟨b, off, cap, h, hb, hcell⟩
  · injection h with h1 _ h2
    subst h1 h2
    exact .inl ⟨by simp, .inl rfl⟩
  · injection h with h1 _ h2
    subst h1 h2
    obtain ⟨ab, ao, asp⟩ := a
    have : k = 0 := by simpa using hk
    subst this
    exact .inl ⟨by simp, .inr ⟨_, _, rfl⟩⟩
  · injection h with h1 _ h2
    subst h1 h2
    by_cases e : k = l.length
    · subst e
      refine .inl ⟨by simp, .inr ⟨⟨b, if c = l.length then off else off + l.length, none⟩, c - l.length, ?_⟩⟩
      show Value.slice _ (l.length - l.length) _ = _
      rw [Nat.sub_self]
    · refine .inr ⟨b, off + k, c - k, ?_, hb, fun j hj => ?_⟩
      · show Value.slice (some ⟨b, if c = k then off else off + k, none⟩) (l.length - k) (c - k) = _
        rw [if_neg (by omega), List.length_drop]
      · rw [List.length_drop] at hj
        have := hcell (k + j) (by omega)
        rw [show off + (k + j) = off + k + j by omega] at this
        rw [this]
        simp
/-- What Write leaves. -/
def WrU (n0 : Nat) (w w' : World) (d F O D X g nF : Nat) (room next fixed : Int) (nf no nd nx m : Nat) (s : List UInt8) (xx : DataW Value) (chg : Value) (xs : List Value) (fv : Value) (L0 L : List UInt8) : Prop :=
  ∃ oo' no' i0 j fv' wrn, no' ≤ no + 16000 ∧ j ≤ 16000 ∧ DkS n0 w' d F O D X room next nf no' nd nx m (oneM (.int .i64 0) (.pointer (some ⟨g, 0, none⟩))) oo' (oneM (.string s) (.int .i64 0)) xx chg xs ∧ Grow (fun b => b = O ∨ b = g ∨ fv.ownBlock = some b) w w' ∧
    Olds w' w.heap.size oo' (keptF L0 i0 j) ∧ FileAt w' g fv' fixed wrn ∧ OwnF nF w' fv' L ∧ w'.ownsRow w.heap.size 3 1 wrn j (ints i0 j) ∧ (fv'.ownBlock = fv.ownBlock ∨ ∃ b, fv'.ownBlock = some b ∧ w.heap.size ≤ b)
theorem WrU.on {n0 : Nat} {w w' : World} {d F O D X g nF : Nat} {room next fixed : Int} {nf no nd nx m : Nat} {s : List UInt8} {xx : DataW Value} {chg : Value} {xs : List Value} {fv : Value} {L0 L : List UInt8} (h : WrU n0 w w' d F O D X g nF room next fixed nf no nd nx m s xx chg xs fv L0 L) : DkOn w' d room next F O D X chg := by
  obtain ⟨oo', no', i0, j, fv', wrn, -, -, h1, -⟩ := h
  exact h1.on
/-- Behind the append: what the whole leaves. -/
theorem wr_end {n0 nF : Nat} {w w3 w4 w5 : World} {d F O D X g : Nat} {room next fixed : Int} {nf no no' nd nx m i0 j : Nat} {oo' xx : DataW Value} {chg fv v5 wrn : Value} {xs : List Value} {s L0 L L5 : List UInt8}
    (hS : DkS n0 w3 d F O D X room next nf no' nd nx m (oneM (.int .i64 0) (.pointer (some ⟨g, 0, none⟩))) oo' (oneM (.string s) (.int .i64 0)) xx chg xs) (hn : no' ≤ no + 16000 ∧ j ≤ 16000) (ap : g ≠ d ∧ g ≠ F ∧ g ≠ O ∧ g ≠ D ∧ g ≠ X ∧ chg.ownBlock ≠ some g)
    (hfd : ∀ b, fv.ownBlock = some b → b ≠ d ∧ b ≠ F ∧ b ≠ O ∧ b ≠ D ∧ b ≠ X ∧ b ≠ g ∧ chg.ownBlock ≠ some b) (hfb : ∀ b, fv.ownBlock = some b → b < w.heap.size)
    (hg3 : Grow (fun b => b = O ∨ b = g) w w3) (hol : Olds w3 w.heap.size oo' (keptF L0 i0 j)) (hfi : FileAt w3 g fv fixed wrn) (hwr : w3.ownsRow w.heap.size 3 1 wrn j (ints i0 j)) (hg4 : Grow (fun x => fv.ownBlock = some x) w3 w4) (hs4 : w4.heap.size = w3.heap.size)
    (h5 : OwnF nF w5 v5 L5) (hgr : w4.drew.grownBy w5 fv.ownBlock) (hlo : v5.ownBlock = fv.ownBlock ∨ v5.ownBlock = some w4.drew.heap.size) (hL5 : L5 = L) (hgl : g < w.heap.size) :
    FileAt w5 g fv fixed wrn ∧ WrU n0 w (w5.setCell ⟨g, 0, none⟩ v5) d F O D X g nF room next fixed nf no nd nx m s xx chg xs fv L0 L := by
  subst hL5
  have g35 : Grow (fun x => fv.ownBlock = some x) w3 w5 := (hg4.trans (Grow.refl _ w4).drew).trans (Grow.of_grown hgr (fun k e _ => e))
  have hf5 : FileAt w5 g fv fixed wrn := hfi.grow g35 (fun e => (hfd g e).2.2.2.2.2.1 rfl)
  have gset : Grow (fun b => b = g) w5 (w5.setCell ⟨g, 0, none⟩ v5) := (Grow.refl _ w5).setCell _ _ (fun _ => rfl)
  have g36 : Grow (fun x => fv.ownBlock = some x ∨ x = g) w3 (w5.setCell ⟨g, 0, none⟩ v5) := (g35.mono (fun _ _ e => .inl e)).trans (gset.mono (fun _ _ e => .inr e))
  have no3 : ∀ {x : Nat}, (fv.ownBlock = some x → False) → x ≠ g → ¬ (fv.ownBlock = some x ∨ x = g) := fun a b e => e.elim a b
  refine ⟨hf5, oo', no', i0, j, v5, wrn, hn.1, hn.2, ⟨hS.on.grow g36 (no3 (fun e => (hfd _ e).1 rfl) (fun e => ap.1 e.symm)), hS.files.grow g36 (no3 (fun e => (hfd _ e).2.1 rfl) (fun e => ap.2.1 e.symm)), hS.olds.grow g36 (no3 (fun e => (hfd _ e).2.2.1 rfl) (fun e => ap.2.2.1 e.symm)), hS.dir.grow g36 (no3 (fun e => (hfd _ e).2.2.2.1 rfl) (fun e => ap.2.2.2.1 e.symm)), hS.fixed.grow g36 (no3 (fun e => (hfd _ e).2.2.2.2.1 rfl) (fun e => ap.2.2.2.2.1 e.symm)), own_grow hS.own g36 (fun k hk => no3 (fun e => (hfd _ e).2.2.2.2.2.2 hk) (fun e => ap.2.2.2.2.2 (by rw [← e]; exact hk))), hS.apart, hS.chgs, hS.low⟩, ?_, ?_, ?_, ?_, ?_, ?_⟩
  · exact (hg3.mono (fun _ _ e => e.elim .inl (fun e => .inr (.inl e)))).trans (g36.mono (fun _ _ e => e.elim (fun e => .inr (.inr e)) (fun e => .inr (.inl e))))
  · exact hol.grow g36 (fun k hk => no3 (fun e => by have := hfb k e; omega) (by omega))
  · show (w5.setCell ⟨g, 0, none⟩ v5).heap[g]? = _
    rw [Go.heap_setCell_same _ g _ _ _ _ hf5]
    rfl
  · exact h5.grow gset (fun k hk e => by
      rcases hlo with e' | e'
      · exact (hfd k (by rw [← e']; exact hk)).2.2.2.2.2.1 e
      · rw [hk] at e'
        injection e' with e'
        have := hg3.size
        have : w4.drew.heap.size = w3.heap.size := hs4
        omega)
  · exact own_grow hwr g36 (fun k hk => no3 (fun e => by have := hfb k e; have := (hwr.lt k hk).1; omega) (by have := (hwr.lt k hk).1; omega))
  · rcases hlo with e | e
    · exact .inl e
    · exact .inr ⟨_, e, by have := hg3.size; have : w4.drew.heap.size = w3.heap.size := hs4; omega⟩
set_option maxRecDepth 100000 in
set_option maxHeartbeats 4000000 in
theorem write_in {n0 nb nF nB : Nat} {w : World} {d F O D X g : Nat} {room next fixed : Int} {nf no nd nx m : Nat} {oo xx : DataW Value} {chg fv bv : Value} {xs : List Value} {s : ByteArray} {L B : List UInt8}
    (h : DkS n0 w d F O D X room next nf no nd nx m (oneM (.int .i64 0) (.pointer (some ⟨g, 0, none⟩))) oo (oneM (.string s.data.toList) (.int .i64 0)) xx chg xs) (hs : s.size ≤ 64) (hO : Olds w nb oo (fun _ => none)) (hg : FileAt w g fv fixed (.slice none 0 0)) (hf : OwnF nF w fv L) (hL : L.length ≤ 500000) (ap : g ≠ d ∧ g ≠ F ∧ g ≠ O ∧ g ≠ D ∧ g ≠ X ∧ chg.ownBlock ≠ some g)
    (hfd : ∀ b, fv.ownBlock = some b → b ≠ d ∧ b ≠ F ∧ b ≠ O ∧ b ≠ D ∧ b ≠ X ∧ b ≠ g ∧ chg.ownBlock ≠ some b) (hno : no ≤ 1000000) (hb : RdIn nB w bv B) (hnB : nB ≤ w.heap.size) (hnF : nF ≤ w.heap.size) (hB : B.length ≤ 500000) (hbv : ∀ b off n c, bv = .slice (some ⟨b, off, none⟩) n c → b ≠ O ∧ b ≠ g ∧ fv.ownBlock ≠ some b) (hbc : ∀ p n c, bv = .slice p n c → c ≤ 9223372036854775807 ∧ n ≤ c) (at_ : Nat) (ha : at_ ≤ L.length) (z : Nat) (hroom : (L.length : Int) / 64 + 1 ≤ room) (hz : at_ + B.length = z) (hcase : z ≤ L.length) :
    Calls Tryz.prog 70 #[.pointer (some ⟨d, 0, none⟩), .string s, .int .i64 (at_ : Int), bv] w fun e w' => e = .returned (.int .i64 0) ∧ WrU n0 w w' d F O D X g nF room next fixed nf no nd nx m s.data.toList xx chg xs fv L (put_ L B at_) := by
  have HR := Lib.hid (ready_ok h.on)
  have HF := Lib.hid (find_any s 0 (.pointer (some ⟨g, 0, none⟩)) h (by unfold maxLen; omega) (by decide) (oneM_at _ (sym_str _)) (by rw [oneM_has]; exact sym_str _) rfl)
  have HS := Lib.hid h
  have HFi := Lib.hid hg
  have HOl := Lib.hid hO
  have HFb := Lib.hid hf
  have HA := Lib.hid ap
  have HFd := Lib.hid hfd
  have HNo := Lib.hid hno
  have HB := Lib.hid hb
  have HBl := Lib.hid (And.intro hB hL)
  have HBv := Lib.hid hbv
  have HRo := Lib.hid hroom
  have HAt := Lib.hid ha
  have HnB := Lib.hid hnB
  have HGl := Lib.hid (show g < w.heap.size from (Array.getElem?_eq_some_iff.1 hg).1)
  have HnF0 := Lib.hid hnF
  obtain ⟨fp, fc, rfl, hfc1, hfc2⟩ : ∃ fp fc, fv = .slice fp L.length fc ∧ L.length ≤ fc ∧ fc ≤ 9223372036854775807 := by
    rcases hf.form with ⟨rfl, rfl⟩ | ⟨b, cap, rfl, -, -, h4, h5, -⟩
    · exact ⟨none, 0, rfl, by simp, by omega⟩
    · exact ⟨_, cap, rfl, h4, by unfold maxLen at h5; omega⟩
  obtain ⟨bp, bc, rfl⟩ : ∃ bp bc, bv = .slice bp B.length bc := by
    rcases hb with ⟨rfl, rfl | ⟨a, c, rfl⟩⟩ | ⟨b, off, c, rfl, -⟩
    · exact ⟨none, 0, rfl⟩
    · exact ⟨some a, c, rfl⟩
    · exact ⟨_, c, rfl⟩
  obtain ⟨hbc1, hbc2⟩ := hbc _ _ _ rfl
  have HC := Lib.hid (And.intro hfc1 (And.intro hfc2 (And.intro hbc1 hbc2)))
  have HZ := Lib.hid (And.intro hz hcase)
  have zz : (at_ : Int) + (B.length : Int) = (z : Int) := by omega
  have zc : (z : Int) ≤ (L.length : Int) := by omega
  have zd : (z : Int) ≤ 1000000 := by omega
  have z1 : (0 : Int) ≤ (at_ : Int) := by omega
  have z2 : (at_ : Int) ≤ (L.length : Int) := by omega
  have z3 : (L.length : Int) ≤ 500000 := by omega
  have z4 : (B.length : Int) ≤ 500000 := by omega
  have z5 : (0 : Int) ≤ (B.length : Int) := by omega
  clear h hs hO hg hf hL ap hfd hno hb hB hbv hbc ha hroom hfc1 hfc2 hbc1 hbc2 hnB hnF hz hcase
  go_enter Tryz.func70, Tryz.ntmps70
  go_wp2_with fail
  refine HR.out.mono ?_
  rintro e w1 ⟨rfl, rfl⟩
  go_wp2_with fail
  refine HF.out.mono ?_
  rintro e w1 ⟨rfl, hg1⟩
  have G1 := Lib.hid hg1
  have HS1 := Lib.hid (HS.out.same hg1)
  have HF1 := Lib.hid (HFi.out.grow hg1 (fun e => e))
  clear hg1 HF HR
  obtain ⟨b0, -, -⟩ := HF1.out.cells
  have hlg1 : g < w1.heap.size := (Array.getElem?_eq_some_iff.1 HF1.out).1
  go_wp2_with fail
  refine (used_one HS1.out rfl HF1.out (by have := HBl.out; omega)).mono ?_
  rintro e w2 ⟨rfl, hg2⟩
  have G2 := Lib.hid (G1.out.trans hg2)
  have HS2 := Lib.hid (HS1.out.same hg2)
  have HF2 := Lib.hid (HF1.out.grow hg2 (fun e => e))
  clear hg2 b0 hlg1 HS1 HF1 G1
  obtain ⟨b0, -, -⟩ := HF2.out.cells
  obtain ⟨-, c1, -, -, -, -, -, -, -, -⟩ := HS2.out.on.cells
  have hl2 : d < w2.heap.size := HS2.out.on.lt
  have hlg2 : g < w2.heap.size := (Array.getElem?_eq_some_iff.1 HF2.out).1
  have se1 := Lib.hid (fun W : World => sectors_any W L.length (by have := HBl.out; omega))
  have se2 := Lib.hid (fun W : World => sectors_any W L.length (by have := HBl.out; have := HZ.out; have := HAt.out; omega))
  obtain ⟨q1, HQ1⟩ : ∃ q1, Hid (q1 = (L.length + 63) / 64) := ⟨_, Lib.hid rfl⟩
  obtain ⟨q2, HQ2⟩ : ∃ q2, Hid (q2 = (L.length + 63) / 64) := ⟨_, Lib.hid rfl⟩
  rw [← HQ1.out] at se1 ⊢
  rw [← HQ2.out] at se2
  have hq' : ¬ room < (q2 : Int) := by have := HQ2.out; have := HBl.out; have := HZ.out; have := HAt.out; have := HRo.out; omega
  have hq : ¬ room < (q1 : Int) := by have := HQ1.out; have := HBl.out; have := HRo.out; have := HZ.out; have := HAt.out; omega
  have q1b : (q1 : Int) ≤ 20000 := by have := HQ1.out; have := HBl.out; omega
  have q2b : (q2 : Int) ≤ 20000 := by have := HQ2.out; have := HBl.out; have := HZ.out; have := HAt.out; omega
  go_wp2_with fail
  go_region_held3 (fun W => W.cell? ⟨g, 0, none⟩ = some (.slice fp L.length fc) ∧ W.cell? ⟨d, 1, none⟩ = some (.int .i64 room)) (exact ⟨b0, c1⟩) ((first
    | (go_at_call 124; refine (se1.out _).mono ?_; rintro e w' ⟨rfl, rfl⟩)
    | (go_at_call 124; refine (se2.out _).mono ?_; rintro e w' ⟨rfl, rfl⟩)))
  have wr0 : IntKind.i64.wrap 0 = 0 := by decide
  have wr1 : IntKind.i64.wrap (IntKind.i64.wrap 0 + (q1 : Int)) = (q1 : Int) := by rw [wr0, Int.zero_add, IntKind.wrap_i64]; omega
  have wr2 : IntKind.i64.wrap (IntKind.i64.wrap 0 + (q2 : Int)) = (q2 : Int) := by rw [wr0, Int.zero_add, IntKind.wrap_i64]; omega
  clear wr0
  have HS2d := Lib.hid (HS2.out.same (Grow.refl _ w2).drew)
  have HFw := Lib.hid (HFb.out.grow (G2.out.trans (Grow.refl _ w2).drew) (fun _ _ e => e))
  have HLo := Lib.hid (loosen_any HS2d.out (HOl.out.same (G2.out.trans (Grow.refl _ w2).drew)) (show FileAt w2.drew g (.slice fp L.length fc) fixed (.slice none 0 0) from HF2.out) HFw.out (by have := HBl.out; omega) ⟨HA.out.1, HA.out.2.2.1⟩ (fun b hb => ⟨(HFd.out b hb).2.2.1, (HFd.out b hb).2.2.2.2.2.1⟩) HNo.out at_ z (by have := HZ.out; omega) (by have := HBl.out; have := HZ.out; have := HAt.out; omega))
  clear b0 c1 hl2 hlg2
  go_wp2_with fail
  try (exfalso; rename_i hbad; first | (rw [wr1] at hbad; omega) | (rw [wr2] at hbad; omega))
  refine HLo.out.mono ?_
  rintro e w3 ⟨rfl, oo', wrn, no', i0, j, hno', hj, hm3, hol3, hfi3, hwr3, hg3⟩
  have G3 := Lib.hid (show Grow (fun b => b = O ∨ b = g) w w3 from ((G2.out.trans (Grow.refl _ w2).drew).mono (fun _ _ e => e.elim)).trans hg3)
  have HN3 := Lib.hid (And.intro hno' hj)
  have HS3 := Lib.hid (wr_mid HS2d.out hm3 hg3 HA.out)
  have HOl3 := Lib.hid (show Olds w3 w.heap.size oo' (keptF L i0 j) from hol3.lower (by have := G2.out.size; exact this))
  have HFi3 := Lib.hid hfi3
  have HWr3 := Lib.hid (own_base hwr3 (show w.heap.size ≤ w2.drew.heap.size from G2.out.size))
  have HFb3 := Lib.hid (HFb.out.grow G3.out (fun b hb => by rintro (e | e); exact (HFd.out b hb).2.2.1 e; exact (HFd.out b hb).2.2.2.2.2.1 e))
  have HBi3 := Lib.hid (HB.out.grow G3.out HnB.out (fun b off n c e => by rintro (e' | e'); exact (HBv.out b off n c e).1 e'; exact (HBv.out b off n c e).2.1 e'))
  clear hno' hj hm3 hol3 hfi3 hwr3 hg3 HLo HS2d HFw HS2 HF2 G2
  have hcp := fun ty : TypeId => copy_into ty HFb3.out HBi3.out HAt.out (fun x hx b off n c e => fun e' => (HBv.out b off n c e).2.2 (by rw [e']; exact hx))
  have hn1 : (fc : Int) ≤ 9223372036854775807 ∧ (L.length : Int) ≤ (fc : Int) ∧ (bc : Int) ≤ 9223372036854775807 ∧ (B.length : Int) ≤ (bc : Int) := by have := HC.out; omega
  obtain ⟨n1, n2, n3, n4⟩ := hn1
  obtain ⟨w4, hr4, hf4, hg4, hb4, hs4⟩ := hcp 3
  have HF4 := Lib.hid hf4
  have HG4 := Lib.hid hg4
  have HB4 := Lib.hid hb4
  clear hcp hf4 hg4 hb4
  obtain ⟨b03, -, -⟩ := HFi3.out.cells
  have hlg3 : g < w3.heap.size := (Array.getElem?_eq_some_iff.1 HFi3.out).1
  have HB5 := Lib.hid (HB4.out.from_ (k := min B.length (L.length - at_)) (Nat.min_le_left _ _) (HC.out.2.2.2))
  have HPut := Lib.hid (put_eq L B at_ HAt.out)
  obtain ⟨k, HK⟩ : ∃ k, Hid (k = min B.length (L.length - at_)) := ⟨_, Lib.hid rfl⟩
  rw [← HK.out] at HB5 HF4 hr4 HPut
  have HK2 := Lib.hid (show k ≤ B.length ∧ k ≤ 500000 ∧ (over L B at_ k).length + (B.drop k).length ≤ 1000000 from by
    have h1 := HK.out
    have h2 := HBl.out
    refine ⟨by omega, by omega, ?_⟩
    rw [over_len (by have := HAt.out; omega) (by omega), List.length_drop]
    omega)
  have k1 : (k : Int) ≤ (B.length : Int) := by have := HK2.out; omega
  have k2 : (0 : Int) ≤ (k : Int) := by omega
  have HFi4 := Lib.hid (show FileAt w4 g (.slice fp L.length fc) fixed wrn from HFi3.out.grow HG4.out (fun e => (HFd.out g e).2.2.2.2.2.1 rfl))
  have HFl := Lib.hid (fun b (hb : (Value.slice fp L.length fc).ownBlock = some b) => (World.ownsRow.lt HFb.out b hb).2)
  have HnFw := Lib.hid (show nF ≤ w4.drew.heap.size from by have := G3.out.size; have := HnF0.out; have e : w4.drew.heap.size = w3.heap.size := hs4; omega)
  obtain ⟨b04, -, -⟩ := HFi4.out.cells
  have hlg4 : g < w4.heap.size := (Array.getElem?_eq_some_iff.1 HFi4.out).1
  rcases HFb.out.form with ⟨hL0, hfv0⟩ | ⟨gb, cap', hfv0, -⟩
  · injection hfv0 with hfv0 _ hfv1
    subst hL0 hfv0 hfv1
    obtain rfl : at_ = 0 := by have := HAt.out; simpa using this
    have hfrom : fromV (.slice none ([] : List UInt8).length 0) 0 = .slice none 0 0 := rfl
    rw [hfrom] at hr4
    clear hfrom
    go_wp2_with fail
    rcases HB4.out with ⟨hB0, hbp | ⟨⟨ab, ao, asp⟩, bcap, hbp⟩⟩ | ⟨bb, off, bcap, hbp, -⟩
    · subst hB0
      injection hbp with hbp _ hbq
      subst hbp hbq
      obtain rfl : k = 0 := by have := HK2.out.1; simpa using this
      go_region_law ((refine step_appB (by rfl) _ _ (by rfl) (by rfl) (by rfl) (show OwnF nF w4.drew _ _ from HF4.out) (show RdIn nB w4.drew (.slice none 0 0) (([] : List UInt8).drop 0) from .inl ⟨rfl, .inl rfl⟩) (by have := HK2.out; omega) (HnFw.out) ?_; intro v5 w5 h5 hgr5 hlo5; obtain ⟨p5, N5, c5, rfl⟩ := OwnF.shape3 h5; obtain ⟨hf5, hE⟩ := wr_end HS3.out HN3.out HA.out HFd.out HFl.out G3.out HOl3.out HFi3.out HWr3.out HG4.out hs4 h5 hgr5 hlo5 HPut.out HGl.out; have HE := Lib.hid hE; obtain ⟨b05, -, -⟩ := hf5.cells; have f05 := frozen_of_row w5 g 0 _ _ hf5; have hlg5 : g < w5.heap.size := (Array.getElem?_eq_some_iff.1 hf5).1; clear hE hf5 h5 hgr5 hlo5))
      try go_frame
      go_wp2_with fail
      refine (done_ok (WrU.on HE.out)).mono ?_
      rintro e w6 ⟨rfl, rfl⟩
      go_wp2_with fail
      go_ret
      exact ⟨rfl, HE.out⟩
    · subst hB0
      injection hbp with hbp _ hbq
      subst hbp hbq
      obtain rfl : k = 0 := by have := HK2.out.1; simpa using this
      by_cases hbk : bc = 0
      · subst hbk
        go_region_law ((refine step_appB (by rfl) _ _ (by rfl) (by rfl) (by rfl) (show OwnF nF w4.drew _ _ from HF4.out) (show RdIn nB w4.drew (.slice (some ⟨ab, ao, asp⟩) 0 0) (([] : List UInt8).drop 0) from .inl ⟨rfl, .inr ⟨_, _, rfl⟩⟩) (by have := HK2.out; omega) (HnFw.out) ?_; intro v5 w5 h5 hgr5 hlo5; obtain ⟨p5, N5, c5, rfl⟩ := OwnF.shape3 h5; obtain ⟨hf5, hE⟩ := wr_end HS3.out HN3.out HA.out HFd.out HFl.out G3.out HOl3.out HFi3.out HWr3.out HG4.out hs4 h5 hgr5 hlo5 HPut.out HGl.out; have HE := Lib.hid hE; obtain ⟨b05, -, -⟩ := hf5.cells; have f05 := frozen_of_row w5 g 0 _ _ hf5; have hlg5 : g < w5.heap.size := (Array.getElem?_eq_some_iff.1 hf5).1; clear hE hf5 h5 hgr5 hlo5))
        try go_frame
        go_wp2_with fail
        refine (done_ok (WrU.on HE.out)).mono ?_
        rintro e w6 ⟨rfl, rfl⟩
        go_wp2_with fail
        go_ret
        exact ⟨rfl, HE.out⟩
      · have hbk' : ¬ (bc : Int) = 0 := by omega
        go_region_law ((refine step_appB (by rfl) _ _ (by rfl) (by rfl) (by rfl) (show OwnF nF w4.drew _ _ from HF4.out) (show RdIn nB w4.drew (.slice (some ⟨ab, ao, asp⟩) 0 bc) (([] : List UInt8).drop 0) from .inl ⟨rfl, .inr ⟨_, _, rfl⟩⟩) (by have := HK2.out; omega) (HnFw.out) ?_; intro v5 w5 h5 hgr5 hlo5; obtain ⟨p5, N5, c5, rfl⟩ := OwnF.shape3 h5; obtain ⟨hf5, hE⟩ := wr_end HS3.out HN3.out HA.out HFd.out HFl.out G3.out HOl3.out HFi3.out HWr3.out HG4.out hs4 h5 hgr5 hlo5 HPut.out HGl.out; have HE := Lib.hid hE; obtain ⟨b05, -, -⟩ := hf5.cells; have f05 := frozen_of_row w5 g 0 _ _ hf5; have hlg5 : g < w5.heap.size := (Array.getElem?_eq_some_iff.1 hf5).1; clear hE hf5 h5 hgr5 hlo5))
        try go_frame
        go_wp2_with fail
        refine (done_ok (WrU.on HE.out)).mono ?_
        rintro e w6 ⟨rfl, rfl⟩
        go_wp2_with fail
        go_ret
        exact ⟨rfl, HE.out⟩
    · injection hbp with hbp _ hbq
      subst hbp hbq
      by_cases hbk : bc = k
      · have hbl : B.length = k := by have := HK2.out; have := HC.out; omega
        have hbi : (bc : Int) = (k : Int) := by omega
        have hbj : B.length - k = 0 := by omega
        go_region_law ((refine step_appB (by rfl) _ _ (by rfl) (by rfl) (by rfl) (show OwnF nF w4.drew _ _ from HF4.out) (show RdIn nB w4.drew (.slice (some ⟨bb, off, none⟩) 0 0) (B.drop k) from .inl ⟨List.drop_of_length_le (by omega), .inr ⟨_, _, rfl⟩⟩) (by have := HK2.out; omega) (HnFw.out) ?_; intro v5 w5 h5 hgr5 hlo5; obtain ⟨p5, N5, c5, rfl⟩ := OwnF.shape3 h5; obtain ⟨hf5, hE⟩ := wr_end HS3.out HN3.out HA.out HFd.out HFl.out G3.out HOl3.out HFi3.out HWr3.out HG4.out hs4 h5 hgr5 hlo5 HPut.out HGl.out; have HE := Lib.hid hE; obtain ⟨b05, -, -⟩ := hf5.cells; have f05 := frozen_of_row w5 g 0 _ _ hf5; have hlg5 : g < w5.heap.size := (Array.getElem?_eq_some_iff.1 hf5).1; clear hE hf5 h5 hgr5 hlo5))
        try go_frame
        go_wp2_with fail
        refine (done_ok (WrU.on HE.out)).mono ?_
        rintro e w6 ⟨rfl, rfl⟩
        go_wp2_with fail
        go_ret
        exact ⟨rfl, HE.out⟩
      · have hbk' : ¬ (bc : Int) = (k : Int) := by omega
        have hbf : fromV (.slice (some ⟨bb, off, none⟩) B.length bc) k = .slice (some ⟨bb, off + k, none⟩) (B.length - k) (bc - k) := by
          show Value.slice (some ⟨bb, if bc = k then off else off + k, none⟩) (B.length - k) (bc - k) = _
          rw [if_neg hbk]
        rw [hbf] at HB5
        clear hbf
        go_region_law ((refine step_appB (by rfl) _ _ (by rfl) (by rfl) (by rfl) (show OwnF nF w4.drew _ _ from HF4.out) (show RdIn nB w4.drew _ (B.drop k) from HB5.out) (by have := HK2.out; omega) (HnFw.out) ?_; intro v5 w5 h5 hgr5 hlo5; obtain ⟨p5, N5, c5, rfl⟩ := OwnF.shape3 h5; obtain ⟨hf5, hE⟩ := wr_end HS3.out HN3.out HA.out HFd.out HFl.out G3.out HOl3.out HFi3.out HWr3.out HG4.out hs4 h5 hgr5 hlo5 HPut.out HGl.out; have HE := Lib.hid hE; obtain ⟨b05, -, -⟩ := hf5.cells; have f05 := frozen_of_row w5 g 0 _ _ hf5; have hlg5 : g < w5.heap.size := (Array.getElem?_eq_some_iff.1 hf5).1; clear hE hf5 h5 hgr5 hlo5))
        try go_frame
        go_wp2_with fail
        refine (done_ok (WrU.on HE.out)).mono ?_
        rintro e w6 ⟨rfl, rfl⟩
        go_wp2_with fail
        go_ret
        exact ⟨rfl, HE.out⟩
  · injection hfv0 with hfv0 _ hfv1
    subst hfv0 hfv1
    by_cases hfa : fc = at_
    · obtain rfl : fc = L.length := by have := HAt.out; have := HC.out; omega
      subst hfa
      have hfrom : fromV (.slice (some ⟨gb, 0, none⟩) L.length L.length) L.length = .slice (some ⟨gb, 0, none⟩) 0 0 := by
        show Value.slice (some ⟨gb, if L.length = L.length then 0 else 0 + L.length, none⟩) (L.length - L.length) (L.length - L.length) = _
        rw [if_pos rfl, Nat.sub_self]
      rw [hfrom] at hr4
      clear hfrom
      go_wp2_with fail
      rcases HB4.out with ⟨hB0, hbp | ⟨⟨ab, ao, asp⟩, bcap, hbp⟩⟩ | ⟨bb, off, bcap, hbp, -⟩
      · subst hB0
        injection hbp with hbp _ hbq
        subst hbp hbq
        obtain rfl : k = 0 := by have := HK2.out.1; simpa using this
        go_region_law ((refine step_appB (by rfl) _ _ (by rfl) (by rfl) (by rfl) (show OwnF nF w4.drew _ _ from HF4.out) (show RdIn nB w4.drew (.slice none 0 0) (([] : List UInt8).drop 0) from .inl ⟨rfl, .inl rfl⟩) (by have := HK2.out; omega) (HnFw.out) ?_; intro v5 w5 h5 hgr5 hlo5; obtain ⟨p5, N5, c5, rfl⟩ := OwnF.shape3 h5; obtain ⟨hf5, hE⟩ := wr_end HS3.out HN3.out HA.out HFd.out HFl.out G3.out HOl3.out HFi3.out HWr3.out HG4.out hs4 h5 hgr5 hlo5 HPut.out HGl.out; have HE := Lib.hid hE; obtain ⟨b05, -, -⟩ := hf5.cells; have f05 := frozen_of_row w5 g 0 _ _ hf5; have hlg5 : g < w5.heap.size := (Array.getElem?_eq_some_iff.1 hf5).1; clear hE hf5 h5 hgr5 hlo5))
        try go_frame
        go_wp2_with fail
        refine (done_ok (WrU.on HE.out)).mono ?_
        rintro e w6 ⟨rfl, rfl⟩
        go_wp2_with fail
        go_ret
        exact ⟨rfl, HE.out⟩
      · subst hB0
        injection hbp with hbp _ hbq
        subst hbp hbq
        obtain rfl : k = 0 := by have := HK2.out.1; simpa using this
        by_cases hbk : bc = 0
        · subst hbk
          go_region_law ((refine step_appB (by rfl) _ _ (by rfl) (by rfl) (by rfl) (show OwnF nF w4.drew _ _ from HF4.out) (show RdIn nB w4.drew (.slice (some ⟨ab, ao, asp⟩) 0 0) (([] : List UInt8).drop 0) from .inl ⟨rfl, .inr ⟨_, _, rfl⟩⟩) (by have := HK2.out; omega) (HnFw.out) ?_; intro v5 w5 h5 hgr5 hlo5; obtain ⟨p5, N5, c5, rfl⟩ := OwnF.shape3 h5; obtain ⟨hf5, hE⟩ := wr_end HS3.out HN3.out HA.out HFd.out HFl.out G3.out HOl3.out HFi3.out HWr3.out HG4.out hs4 h5 hgr5 hlo5 HPut.out HGl.out; have HE := Lib.hid hE; obtain ⟨b05, -, -⟩ := hf5.cells; have f05 := frozen_of_row w5 g 0 _ _ hf5; have hlg5 : g < w5.heap.size := (Array.getElem?_eq_some_iff.1 hf5).1; clear hE hf5 h5 hgr5 hlo5))
          try go_frame
          go_wp2_with fail
          refine (done_ok (WrU.on HE.out)).mono ?_
          rintro e w6 ⟨rfl, rfl⟩
          go_wp2_with fail
          go_ret
          exact ⟨rfl, HE.out⟩
        · have hbk' : ¬ (bc : Int) = 0 := by omega
          go_region_law ((refine step_appB (by rfl) _ _ (by rfl) (by rfl) (by rfl) (show OwnF nF w4.drew _ _ from HF4.out) (show RdIn nB w4.drew (.slice (some ⟨ab, ao, asp⟩) 0 bc) (([] : List UInt8).drop 0) from .inl ⟨rfl, .inr ⟨_, _, rfl⟩⟩) (by have := HK2.out; omega) (HnFw.out) ?_; intro v5 w5 h5 hgr5 hlo5; obtain ⟨p5, N5, c5, rfl⟩ := OwnF.shape3 h5; obtain ⟨hf5, hE⟩ := wr_end HS3.out HN3.out HA.out HFd.out HFl.out G3.out HOl3.out HFi3.out HWr3.out HG4.out hs4 h5 hgr5 hlo5 HPut.out HGl.out; have HE := Lib.hid hE; obtain ⟨b05, -, -⟩ := hf5.cells; have f05 := frozen_of_row w5 g 0 _ _ hf5; have hlg5 : g < w5.heap.size := (Array.getElem?_eq_some_iff.1 hf5).1; clear hE hf5 h5 hgr5 hlo5))
          try go_frame
          go_wp2_with fail
          refine (done_ok (WrU.on HE.out)).mono ?_
          rintro e w6 ⟨rfl, rfl⟩
          go_wp2_with fail
          go_ret
          exact ⟨rfl, HE.out⟩
      · injection hbp with hbp _ hbq
        subst hbp hbq
        by_cases hbk : bc = k
        · have hbl : B.length = k := by have := HK2.out; have := HC.out; omega
          have hbi : (bc : Int) = (k : Int) := by omega
          have hbj : B.length - k = 0 := by omega
          go_region_law ((refine step_appB (by rfl) _ _ (by rfl) (by rfl) (by rfl) (show OwnF nF w4.drew _ _ from HF4.out) (show RdIn nB w4.drew (.slice (some ⟨bb, off, none⟩) 0 0) (B.drop k) from .inl ⟨List.drop_of_length_le (by omega), .inr ⟨_, _, rfl⟩⟩) (by have := HK2.out; omega) (HnFw.out) ?_; intro v5 w5 h5 hgr5 hlo5; obtain ⟨p5, N5, c5, rfl⟩ := OwnF.shape3 h5; obtain ⟨hf5, hE⟩ := wr_end HS3.out HN3.out HA.out HFd.out HFl.out G3.out HOl3.out HFi3.out HWr3.out HG4.out hs4 h5 hgr5 hlo5 HPut.out HGl.out; have HE := Lib.hid hE; obtain ⟨b05, -, -⟩ := hf5.cells; have f05 := frozen_of_row w5 g 0 _ _ hf5; have hlg5 : g < w5.heap.size := (Array.getElem?_eq_some_iff.1 hf5).1; clear hE hf5 h5 hgr5 hlo5))
          try go_frame
          go_wp2_with fail
          refine (done_ok (WrU.on HE.out)).mono ?_
          rintro e w6 ⟨rfl, rfl⟩
          go_wp2_with fail
          go_ret
          exact ⟨rfl, HE.out⟩
        · have hbk' : ¬ (bc : Int) = (k : Int) := by omega
          have hbf : fromV (.slice (some ⟨bb, off, none⟩) B.length bc) k = .slice (some ⟨bb, off + k, none⟩) (B.length - k) (bc - k) := by
            show Value.slice (some ⟨bb, if bc = k then off else off + k, none⟩) (B.length - k) (bc - k) = _
            rw [if_neg hbk]
          rw [hbf] at HB5
          clear hbf
          go_region_law ((refine step_appB (by rfl) _ _ (by rfl) (by rfl) (by rfl) (show OwnF nF w4.drew _ _ from HF4.out) (show RdIn nB w4.drew _ (B.drop k) from HB5.out) (by have := HK2.out; omega) (HnFw.out) ?_; intro v5 w5 h5 hgr5 hlo5; obtain ⟨p5, N5, c5, rfl⟩ := OwnF.shape3 h5; obtain ⟨hf5, hE⟩ := wr_end HS3.out HN3.out HA.out HFd.out HFl.out G3.out HOl3.out HFi3.out HWr3.out HG4.out hs4 h5 hgr5 hlo5 HPut.out HGl.out; have HE := Lib.hid hE; obtain ⟨b05, -, -⟩ := hf5.cells; have f05 := frozen_of_row w5 g 0 _ _ hf5; have hlg5 : g < w5.heap.size := (Array.getElem?_eq_some_iff.1 hf5).1; clear hE hf5 h5 hgr5 hlo5))
          try go_frame
          go_wp2_with fail
          refine (done_ok (WrU.on HE.out)).mono ?_
          rintro e w6 ⟨rfl, rfl⟩
          go_wp2_with fail
          go_ret
          exact ⟨rfl, HE.out⟩
    · have hfa' : ¬ (fc : Int) = (at_ : Int) := by omega
      have hfa2 : (at_ : Int) < (fc : Int) := by have := HAt.out; have := HC.out; omega
      have hfrom : fromV (.slice (some ⟨gb, 0, none⟩) L.length fc) at_ = .slice (some ⟨gb, at_, none⟩) (L.length - at_) (fc - at_) := by
        show Value.slice (some ⟨gb, if fc = at_ then 0 else 0 + at_, none⟩) (L.length - at_) (fc - at_) = _
        rw [if_neg hfa, Nat.zero_add]
      rw [hfrom] at hr4
      clear hfrom
      go_wp2_with fail
      rcases HB4.out with ⟨hB0, hbp | ⟨⟨ab, ao, asp⟩, bcap, hbp⟩⟩ | ⟨bb, off, bcap, hbp, -⟩
      · subst hB0
        injection hbp with hbp _ hbq
        subst hbp hbq
        obtain rfl : k = 0 := by have := HK2.out.1; simpa using this
        go_region_law ((refine step_appB (by rfl) _ _ (by rfl) (by rfl) (by rfl) (show OwnF nF w4.drew _ _ from HF4.out) (show RdIn nB w4.drew (.slice none 0 0) (([] : List UInt8).drop 0) from .inl ⟨rfl, .inl rfl⟩) (by have := HK2.out; omega) (HnFw.out) ?_; intro v5 w5 h5 hgr5 hlo5; obtain ⟨p5, N5, c5, rfl⟩ := OwnF.shape3 h5; obtain ⟨hf5, hE⟩ := wr_end HS3.out HN3.out HA.out HFd.out HFl.out G3.out HOl3.out HFi3.out HWr3.out HG4.out hs4 h5 hgr5 hlo5 HPut.out HGl.out; have HE := Lib.hid hE; obtain ⟨b05, -, -⟩ := hf5.cells; have f05 := frozen_of_row w5 g 0 _ _ hf5; have hlg5 : g < w5.heap.size := (Array.getElem?_eq_some_iff.1 hf5).1; clear hE hf5 h5 hgr5 hlo5))
        try go_frame
        go_wp2_with fail
        refine (done_ok (WrU.on HE.out)).mono ?_
        rintro e w6 ⟨rfl, rfl⟩
        go_wp2_with fail
        go_ret
        exact ⟨rfl, HE.out⟩
      · subst hB0
        injection hbp with hbp _ hbq
        subst hbp hbq
        obtain rfl : k = 0 := by have := HK2.out.1; simpa using this
        by_cases hbk : bc = 0
        · subst hbk
          go_region_law ((refine step_appB (by rfl) _ _ (by rfl) (by rfl) (by rfl) (show OwnF nF w4.drew _ _ from HF4.out) (show RdIn nB w4.drew (.slice (some ⟨ab, ao, asp⟩) 0 0) (([] : List UInt8).drop 0) from .inl ⟨rfl, .inr ⟨_, _, rfl⟩⟩) (by have := HK2.out; omega) (HnFw.out) ?_; intro v5 w5 h5 hgr5 hlo5; obtain ⟨p5, N5, c5, rfl⟩ := OwnF.shape3 h5; obtain ⟨hf5, hE⟩ := wr_end HS3.out HN3.out HA.out HFd.out HFl.out G3.out HOl3.out HFi3.out HWr3.out HG4.out hs4 h5 hgr5 hlo5 HPut.out HGl.out; have HE := Lib.hid hE; obtain ⟨b05, -, -⟩ := hf5.cells; have f05 := frozen_of_row w5 g 0 _ _ hf5; have hlg5 : g < w5.heap.size := (Array.getElem?_eq_some_iff.1 hf5).1; clear hE hf5 h5 hgr5 hlo5))
          try go_frame
          go_wp2_with fail
          refine (done_ok (WrU.on HE.out)).mono ?_
          rintro e w6 ⟨rfl, rfl⟩
          go_wp2_with fail
          go_ret
          exact ⟨rfl, HE.out⟩
        · have hbk' : ¬ (bc : Int) = 0 := by omega
          go_region_law ((refine step_appB (by rfl) _ _ (by rfl) (by rfl) (by rfl) (show OwnF nF w4.drew _ _ from HF4.out) (show RdIn nB w4.drew (.slice (some ⟨ab, ao, asp⟩) 0 bc) (([] : List UInt8).drop 0) from .inl ⟨rfl, .inr ⟨_, _, rfl⟩⟩) (by have := HK2.out; omega) (HnFw.out) ?_; intro v5 w5 h5 hgr5 hlo5; obtain ⟨p5, N5, c5, rfl⟩ := OwnF.shape3 h5; obtain ⟨hf5, hE⟩ := wr_end HS3.out HN3.out HA.out HFd.out HFl.out G3.out HOl3.out HFi3.out HWr3.out HG4.out hs4 h5 hgr5 hlo5 HPut.out HGl.out; have HE := Lib.hid hE; obtain ⟨b05, -, -⟩ := hf5.cells; have f05 := frozen_of_row w5 g 0 _ _ hf5; have hlg5 : g < w5.heap.size := (Array.getElem?_eq_some_iff.1 hf5).1; clear hE hf5 h5 hgr5 hlo5))
          try go_frame
          go_wp2_with fail
          refine (done_ok (WrU.on HE.out)).mono ?_
          rintro e w6 ⟨rfl, rfl⟩
          go_wp2_with fail
          go_ret
          exact ⟨rfl, HE.out⟩
      · injection hbp with hbp _ hbq
        subst hbp hbq
        by_cases hbk : bc = k
        · have hbl : B.length = k := by have := HK2.out; have := HC.out; omega
          have hbi : (bc : Int) = (k : Int) := by omega
          have hbj : B.length - k = 0 := by omega
          go_region_law ((refine step_appB (by rfl) _ _ (by rfl) (by rfl) (by rfl) (show OwnF nF w4.drew _ _ from HF4.out) (show RdIn nB w4.drew (.slice (some ⟨bb, off, none⟩) 0 0) (B.drop k) from .inl ⟨List.drop_of_length_le (by omega), .inr ⟨_, _, rfl⟩⟩) (by have := HK2.out; omega) (HnFw.out) ?_; intro v5 w5 h5 hgr5 hlo5; obtain ⟨p5, N5, c5, rfl⟩ := OwnF.shape3 h5; obtain ⟨hf5, hE⟩ := wr_end HS3.out HN3.out HA.out HFd.out HFl.out G3.out HOl3.out HFi3.out HWr3.out HG4.out hs4 h5 hgr5 hlo5 HPut.out HGl.out; have HE := Lib.hid hE; obtain ⟨b05, -, -⟩ := hf5.cells; have f05 := frozen_of_row w5 g 0 _ _ hf5; have hlg5 : g < w5.heap.size := (Array.getElem?_eq_some_iff.1 hf5).1; clear hE hf5 h5 hgr5 hlo5))
          try go_frame
          go_wp2_with fail
          refine (done_ok (WrU.on HE.out)).mono ?_
          rintro e w6 ⟨rfl, rfl⟩
          go_wp2_with fail
          go_ret
          exact ⟨rfl, HE.out⟩
        · have hbk' : ¬ (bc : Int) = (k : Int) := by omega
          have hbf : fromV (.slice (some ⟨bb, off, none⟩) B.length bc) k = .slice (some ⟨bb, off + k, none⟩) (B.length - k) (bc - k) := by
            show Value.slice (some ⟨bb, if bc = k then off else off + k, none⟩) (B.length - k) (bc - k) = _
            rw [if_neg hbk]
          rw [hbf] at HB5
          clear hbf
          go_region_law ((refine step_appB (by rfl) _ _ (by rfl) (by rfl) (by rfl) (show OwnF nF w4.drew _ _ from HF4.out) (show RdIn nB w4.drew _ (B.drop k) from HB5.out) (by have := HK2.out; omega) (HnFw.out) ?_; intro v5 w5 h5 hgr5 hlo5; obtain ⟨p5, N5, c5, rfl⟩ := OwnF.shape3 h5; obtain ⟨hf5, hE⟩ := wr_end HS3.out HN3.out HA.out HFd.out HFl.out G3.out HOl3.out HFi3.out HWr3.out HG4.out hs4 h5 hgr5 hlo5 HPut.out HGl.out; have HE := Lib.hid hE; obtain ⟨b05, -, -⟩ := hf5.cells; have f05 := frozen_of_row w5 g 0 _ _ hf5; have hlg5 : g < w5.heap.size := (Array.getElem?_eq_some_iff.1 hf5).1; clear hE hf5 h5 hgr5 hlo5))
          try go_frame
          go_wp2_with fail
          refine (done_ok (WrU.on HE.out)).mono ?_
          rintro e w6 ⟨rfl, rfl⟩
          go_wp2_with fail
          go_ret
          exact ⟨rfl, HE.out⟩
set_option maxRecDepth 100000 in
set_option maxHeartbeats 4000000 in
theorem write_grow {n0 nb nF nB : Nat} {w : World} {d F O D X g : Nat} {room next fixed : Int} {nf no nd nx m : Nat} {oo xx : DataW Value} {chg fv bv : Value} {xs : List Value} {s : ByteArray} {L B : List UInt8}
    (h : DkS n0 w d F O D X room next nf no nd nx m (oneM (.int .i64 0) (.pointer (some ⟨g, 0, none⟩))) oo (oneM (.string s.data.toList) (.int .i64 0)) xx chg xs) (hs : s.size ≤ 64) (hO : Olds w nb oo (fun _ => none)) (hg : FileAt w g fv fixed (.slice none 0 0)) (hf : OwnF nF w fv L) (hL : L.length ≤ 500000) (ap : g ≠ d ∧ g ≠ F ∧ g ≠ O ∧ g ≠ D ∧ g ≠ X ∧ chg.ownBlock ≠ some g)
    (hfd : ∀ b, fv.ownBlock = some b → b ≠ d ∧ b ≠ F ∧ b ≠ O ∧ b ≠ D ∧ b ≠ X ∧ b ≠ g ∧ chg.ownBlock ≠ some b) (hno : no ≤ 1000000) (hb : RdIn nB w bv B) (hnB : nB ≤ w.heap.size) (hnF : nF ≤ w.heap.size) (hB : B.length ≤ 500000) (hbv : ∀ b off n c, bv = .slice (some ⟨b, off, none⟩) n c → b ≠ O ∧ b ≠ g ∧ fv.ownBlock ≠ some b) (hbc : ∀ p n c, bv = .slice p n c → c ≤ 9223372036854775807 ∧ n ≤ c) (at_ : Nat) (ha : at_ ≤ L.length) (z : Nat) (hroom : (z : Int) / 64 + 1 ≤ room) (hz : at_ + B.length = z) (hcase : L.length < z) :
    Calls Tryz.prog 70 #[.pointer (some ⟨d, 0, none⟩), .string s, .int .i64 (at_ : Int), bv] w fun e w' => e = .returned (.int .i64 0) ∧ WrU n0 w w' d F O D X g nF room next fixed nf no nd nx m s.data.toList xx chg xs fv L (put_ L B at_) := by
  have HR := Lib.hid (ready_ok h.on)
  have HF := Lib.hid (find_any s 0 (.pointer (some ⟨g, 0, none⟩)) h (by unfold maxLen; omega) (by decide) (oneM_at _ (sym_str _)) (by rw [oneM_has]; exact sym_str _) rfl)
  have HS := Lib.hid h
  have HFi := Lib.hid hg
  have HOl := Lib.hid hO
  have HFb := Lib.hid hf
  have HA := Lib.hid ap
  have HFd := Lib.hid hfd
  have HNo := Lib.hid hno
  have HB := Lib.hid hb
  have HBl := Lib.hid (And.intro hB hL)
  have HBv := Lib.hid hbv
  have HRo := Lib.hid hroom
  have HAt := Lib.hid ha
  have HnB := Lib.hid hnB
  have HGl := Lib.hid (show g < w.heap.size from (Array.getElem?_eq_some_iff.1 hg).1)
  have HnF0 := Lib.hid hnF
  obtain ⟨fp, fc, rfl, hfc1, hfc2⟩ : ∃ fp fc, fv = .slice fp L.length fc ∧ L.length ≤ fc ∧ fc ≤ 9223372036854775807 := by
    rcases hf.form with ⟨rfl, rfl⟩ | ⟨b, cap, rfl, -, -, h4, h5, -⟩
    · exact ⟨none, 0, rfl, by simp, by omega⟩
    · exact ⟨_, cap, rfl, h4, by unfold maxLen at h5; omega⟩
  obtain ⟨bp, bc, rfl⟩ : ∃ bp bc, bv = .slice bp B.length bc := by
    rcases hb with ⟨rfl, rfl | ⟨a, c, rfl⟩⟩ | ⟨b, off, c, rfl, -⟩
    · exact ⟨none, 0, rfl⟩
    · exact ⟨some a, c, rfl⟩
    · exact ⟨_, c, rfl⟩
  obtain ⟨hbc1, hbc2⟩ := hbc _ _ _ rfl
  have HC := Lib.hid (And.intro hfc1 (And.intro hfc2 (And.intro hbc1 hbc2)))
  have HZ := Lib.hid (And.intro hz hcase)
  have zz : (at_ : Int) + (B.length : Int) = (z : Int) := by omega
  have zc : (L.length : Int) < (z : Int) := by omega
  have zd : (z : Int) ≤ 1000000 := by omega
  have z1 : (0 : Int) ≤ (at_ : Int) := by omega
  have z2 : (at_ : Int) ≤ (L.length : Int) := by omega
  have z3 : (L.length : Int) ≤ 500000 := by omega
  have z4 : (B.length : Int) ≤ 500000 := by omega
  have z5 : (0 : Int) ≤ (B.length : Int) := by omega
  clear h hs hO hg hf hL ap hfd hno hb hB hbv hbc ha hroom hfc1 hfc2 hbc1 hbc2 hnB hnF hz hcase
  go_enter Tryz.func70, Tryz.ntmps70
  go_wp2_with fail
  refine HR.out.mono ?_
  rintro e w1 ⟨rfl, rfl⟩
  go_wp2_with fail
  refine HF.out.mono ?_
  rintro e w1 ⟨rfl, hg1⟩
  have G1 := Lib.hid hg1
  have HS1 := Lib.hid (HS.out.same hg1)
  have HF1 := Lib.hid (HFi.out.grow hg1 (fun e => e))
  clear hg1 HF HR
  obtain ⟨b0, -, -⟩ := HF1.out.cells
  have hlg1 : g < w1.heap.size := (Array.getElem?_eq_some_iff.1 HF1.out).1
  go_wp2_with fail
  refine (used_one HS1.out rfl HF1.out (by have := HBl.out; omega)).mono ?_
  rintro e w2 ⟨rfl, hg2⟩
  have G2 := Lib.hid (G1.out.trans hg2)
  have HS2 := Lib.hid (HS1.out.same hg2)
  have HF2 := Lib.hid (HF1.out.grow hg2 (fun e => e))
  clear hg2 b0 hlg1 HS1 HF1 G1
  obtain ⟨b0, -, -⟩ := HF2.out.cells
  obtain ⟨-, c1, -, -, -, -, -, -, -, -⟩ := HS2.out.on.cells
  have hl2 : d < w2.heap.size := HS2.out.on.lt
  have hlg2 : g < w2.heap.size := (Array.getElem?_eq_some_iff.1 HF2.out).1
  have se1 := Lib.hid (fun W : World => sectors_any W L.length (by have := HBl.out; omega))
  have se2 := Lib.hid (fun W : World => sectors_any W z (by have := HBl.out; have := HZ.out; have := HAt.out; omega))
  obtain ⟨q1, HQ1⟩ : ∃ q1, Hid (q1 = (L.length + 63) / 64) := ⟨_, Lib.hid rfl⟩
  obtain ⟨q2, HQ2⟩ : ∃ q2, Hid (q2 = (z + 63) / 64) := ⟨_, Lib.hid rfl⟩
  rw [← HQ1.out] at se1 ⊢
  rw [← HQ2.out] at se2
  have hq' : ¬ room < (q2 : Int) := by have := HQ2.out; have := HBl.out; have := HZ.out; have := HAt.out; have := HRo.out; omega
  have hq : ¬ room < (q1 : Int) := by have := HQ1.out; have := HBl.out; have := HRo.out; have := HZ.out; have := HAt.out; omega
  have q1b : (q1 : Int) ≤ 20000 := by have := HQ1.out; have := HBl.out; omega
  have q2b : (q2 : Int) ≤ 20000 := by have := HQ2.out; have := HBl.out; have := HZ.out; have := HAt.out; omega
  go_wp2_with fail
  go_region_held3 (fun W => W.cell? ⟨g, 0, none⟩ = some (.slice fp L.length fc) ∧ W.cell? ⟨d, 1, none⟩ = some (.int .i64 room)) (exact ⟨b0, c1⟩) ((first
    | (go_at_call 124; refine (se1.out _).mono ?_; rintro e w' ⟨rfl, rfl⟩)
    | (go_at_call 124; refine (se2.out _).mono ?_; rintro e w' ⟨rfl, rfl⟩)))
  have wr0 : IntKind.i64.wrap 0 = 0 := by decide
  have wr1 : IntKind.i64.wrap (IntKind.i64.wrap 0 + (q1 : Int)) = (q1 : Int) := by rw [wr0, Int.zero_add, IntKind.wrap_i64]; omega
  have wr2 : IntKind.i64.wrap (IntKind.i64.wrap 0 + (q2 : Int)) = (q2 : Int) := by rw [wr0, Int.zero_add, IntKind.wrap_i64]; omega
  clear wr0
  have HS2d := Lib.hid (HS2.out.same (Grow.refl _ w2).drew)
  have HFw := Lib.hid (HFb.out.grow (G2.out.trans (Grow.refl _ w2).drew) (fun _ _ e => e))
  have HLo := Lib.hid (loosen_any HS2d.out (HOl.out.same (G2.out.trans (Grow.refl _ w2).drew)) (show FileAt w2.drew g (.slice fp L.length fc) fixed (.slice none 0 0) from HF2.out) HFw.out (by have := HBl.out; omega) ⟨HA.out.1, HA.out.2.2.1⟩ (fun b hb => ⟨(HFd.out b hb).2.2.1, (HFd.out b hb).2.2.2.2.2.1⟩) HNo.out at_ z (by have := HZ.out; omega) (by have := HBl.out; have := HZ.out; have := HAt.out; omega))
  clear b0 c1 hl2 hlg2
  go_wp2_with fail
  try (exfalso; rename_i hbad; first | (rw [wr1] at hbad; omega) | (rw [wr2] at hbad; omega))
  refine HLo.out.mono ?_
  rintro e w3 ⟨rfl, oo', wrn, no', i0, j, hno', hj, hm3, hol3, hfi3, hwr3, hg3⟩
  have G3 := Lib.hid (show Grow (fun b => b = O ∨ b = g) w w3 from ((G2.out.trans (Grow.refl _ w2).drew).mono (fun _ _ e => e.elim)).trans hg3)
  have HN3 := Lib.hid (And.intro hno' hj)
  have HS3 := Lib.hid (wr_mid HS2d.out hm3 hg3 HA.out)
  have HOl3 := Lib.hid (show Olds w3 w.heap.size oo' (keptF L i0 j) from hol3.lower (by have := G2.out.size; exact this))
  have HFi3 := Lib.hid hfi3
  have HWr3 := Lib.hid (own_base hwr3 (show w.heap.size ≤ w2.drew.heap.size from G2.out.size))
  have HFb3 := Lib.hid (HFb.out.grow G3.out (fun b hb => by rintro (e | e); exact (HFd.out b hb).2.2.1 e; exact (HFd.out b hb).2.2.2.2.2.1 e))
  have HBi3 := Lib.hid (HB.out.grow G3.out HnB.out (fun b off n c e => by rintro (e' | e'); exact (HBv.out b off n c e).1 e'; exact (HBv.out b off n c e).2.1 e'))
  clear hno' hj hm3 hol3 hfi3 hwr3 hg3 HLo HS2d HFw HS2 HF2 G2
  have hcp := fun ty : TypeId => copy_into ty HFb3.out HBi3.out HAt.out (fun x hx b off n c e => fun e' => (HBv.out b off n c e).2.2 (by rw [e']; exact hx))
  have hn1 : (fc : Int) ≤ 9223372036854775807 ∧ (L.length : Int) ≤ (fc : Int) ∧ (bc : Int) ≤ 9223372036854775807 ∧ (B.length : Int) ≤ (bc : Int) := by have := HC.out; omega
  obtain ⟨n1, n2, n3, n4⟩ := hn1
  obtain ⟨w4, hr4, hf4, hg4, hb4, hs4⟩ := hcp 3
  have HF4 := Lib.hid hf4
  have HG4 := Lib.hid hg4
  have HB4 := Lib.hid hb4
  clear hcp hf4 hg4 hb4
  obtain ⟨b03, -, -⟩ := HFi3.out.cells
  have hlg3 : g < w3.heap.size := (Array.getElem?_eq_some_iff.1 HFi3.out).1
  have HB5 := Lib.hid (HB4.out.from_ (k := min B.length (L.length - at_)) (Nat.min_le_left _ _) (HC.out.2.2.2))
  have HPut := Lib.hid (put_eq L B at_ HAt.out)
  obtain ⟨k, HK⟩ : ∃ k, Hid (k = min B.length (L.length - at_)) := ⟨_, Lib.hid rfl⟩
  rw [← HK.out] at HB5 HF4 hr4 HPut
  have HK2 := Lib.hid (show k ≤ B.length ∧ k ≤ 500000 ∧ (over L B at_ k).length + (B.drop k).length ≤ 1000000 from by
    have h1 := HK.out
    have h2 := HBl.out
    refine ⟨by omega, by omega, ?_⟩
    rw [over_len (by have := HAt.out; omega) (by omega), List.length_drop]
    omega)
  have k1 : (k : Int) ≤ (B.length : Int) := by have := HK2.out; omega
  have k2 : (0 : Int) ≤ (k : Int) := by omega
  have HFi4 := Lib.hid (show FileAt w4 g (.slice fp L.length fc) fixed wrn from HFi3.out.grow HG4.out (fun e => (HFd.out g e).2.2.2.2.2.1 rfl))
  have HFl := Lib.hid (fun b (hb : (Value.slice fp L.length fc).ownBlock = some b) => (World.ownsRow.lt HFb.out b hb).2)
  have HnFw := Lib.hid (show nF ≤ w4.drew.heap.size from by have := G3.out.size; have := HnF0.out; have e : w4.drew.heap.size = w3.heap.size := hs4; omega)
  obtain ⟨b04, -, -⟩ := HFi4.out.cells
  have hlg4 : g < w4.heap.size := (Array.getElem?_eq_some_iff.1 HFi4.out).1
  rcases HFb.out.form with ⟨hL0, hfv0⟩ | ⟨gb, cap', hfv0, -⟩
  · injection hfv0 with hfv0 _ hfv1
    subst hL0 hfv0 hfv1
    obtain rfl : at_ = 0 := by have := HAt.out; simpa using this
    have hfrom : fromV (.slice none ([] : List UInt8).length 0) 0 = .slice none 0 0 := rfl
    rw [hfrom] at hr4
    clear hfrom
    go_wp2_with fail
    rcases HB4.out with ⟨hB0, hbp | ⟨⟨ab, ao, asp⟩, bcap, hbp⟩⟩ | ⟨bb, off, bcap, hbp, -⟩
    · subst hB0
      injection hbp with hbp _ hbq
      subst hbp hbq
      obtain rfl : k = 0 := by have := HK2.out.1; simpa using this
      go_region_law ((refine step_appB (by rfl) _ _ (by rfl) (by rfl) (by rfl) (show OwnF nF w4.drew _ _ from HF4.out) (show RdIn nB w4.drew (.slice none 0 0) (([] : List UInt8).drop 0) from .inl ⟨rfl, .inl rfl⟩) (by have := HK2.out; omega) (HnFw.out) ?_; intro v5 w5 h5 hgr5 hlo5; obtain ⟨p5, N5, c5, rfl⟩ := OwnF.shape3 h5; obtain ⟨hf5, hE⟩ := wr_end HS3.out HN3.out HA.out HFd.out HFl.out G3.out HOl3.out HFi3.out HWr3.out HG4.out hs4 h5 hgr5 hlo5 HPut.out HGl.out; have HE := Lib.hid hE; obtain ⟨b05, -, -⟩ := hf5.cells; have f05 := frozen_of_row w5 g 0 _ _ hf5; have hlg5 : g < w5.heap.size := (Array.getElem?_eq_some_iff.1 hf5).1; clear hE hf5 h5 hgr5 hlo5))
      try go_frame
      go_wp2_with fail
      refine (done_ok (WrU.on HE.out)).mono ?_
      rintro e w6 ⟨rfl, rfl⟩
      go_wp2_with fail
      go_ret
      exact ⟨rfl, HE.out⟩
    · subst hB0
      injection hbp with hbp _ hbq
      subst hbp hbq
      obtain rfl : k = 0 := by have := HK2.out.1; simpa using this
      by_cases hbk : bc = 0
      · subst hbk
        go_region_law ((refine step_appB (by rfl) _ _ (by rfl) (by rfl) (by rfl) (show OwnF nF w4.drew _ _ from HF4.out) (show RdIn nB w4.drew (.slice (some ⟨ab, ao, asp⟩) 0 0) (([] : List UInt8).drop 0) from .inl ⟨rfl, .inr ⟨_, _, rfl⟩⟩) (by have := HK2.out; omega) (HnFw.out) ?_; intro v5 w5 h5 hgr5 hlo5; obtain ⟨p5, N5, c5, rfl⟩ := OwnF.shape3 h5; obtain ⟨hf5, hE⟩ := wr_end HS3.out HN3.out HA.out HFd.out HFl.out G3.out HOl3.out HFi3.out HWr3.out HG4.out hs4 h5 hgr5 hlo5 HPut.out HGl.out; have HE := Lib.hid hE; obtain ⟨b05, -, -⟩ := hf5.cells; have f05 := frozen_of_row w5 g 0 _ _ hf5; have hlg5 : g < w5.heap.size := (Array.getElem?_eq_some_iff.1 hf5).1; clear hE hf5 h5 hgr5 hlo5))
        try go_frame
        go_wp2_with fail
        refine (done_ok (WrU.on HE.out)).mono ?_
        rintro e w6 ⟨rfl, rfl⟩
        go_wp2_with fail
        go_ret
        exact ⟨rfl, HE.out⟩
      · have hbk' : ¬ (bc : Int) = 0 := by omega
        go_region_law ((refine step_appB (by rfl) _ _ (by rfl) (by rfl) (by rfl) (show OwnF nF w4.drew _ _ from HF4.out) (show RdIn nB w4.drew (.slice (some ⟨ab, ao, asp⟩) 0 bc) (([] : List UInt8).drop 0) from .inl ⟨rfl, .inr ⟨_, _, rfl⟩⟩) (by have := HK2.out; omega) (HnFw.out) ?_; intro v5 w5 h5 hgr5 hlo5; obtain ⟨p5, N5, c5, rfl⟩ := OwnF.shape3 h5; obtain ⟨hf5, hE⟩ := wr_end HS3.out HN3.out HA.out HFd.out HFl.out G3.out HOl3.out HFi3.out HWr3.out HG4.out hs4 h5 hgr5 hlo5 HPut.out HGl.out; have HE := Lib.hid hE; obtain ⟨b05, -, -⟩ := hf5.cells; have f05 := frozen_of_row w5 g 0 _ _ hf5; have hlg5 : g < w5.heap.size := (Array.getElem?_eq_some_iff.1 hf5).1; clear hE hf5 h5 hgr5 hlo5))
        try go_frame
        go_wp2_with fail
        refine (done_ok (WrU.on HE.out)).mono ?_
        rintro e w6 ⟨rfl, rfl⟩
        go_wp2_with fail
        go_ret
        exact ⟨rfl, HE.out⟩
    · injection hbp with hbp _ hbq
      subst hbp hbq
      by_cases hbk : bc = k
      · have hbl : B.length = k := by have := HK2.out; have := HC.out; omega
        have hbi : (bc : Int) = (k : Int) := by omega
        have hbj : B.length - k = 0 := by omega
        go_region_law ((refine step_appB (by rfl) _ _ (by rfl) (by rfl) (by rfl) (show OwnF nF w4.drew _ _ from HF4.out) (show RdIn nB w4.drew (.slice (some ⟨bb, off, none⟩) 0 0) (B.drop k) from .inl ⟨List.drop_of_length_le (by omega), .inr ⟨_, _, rfl⟩⟩) (by have := HK2.out; omega) (HnFw.out) ?_; intro v5 w5 h5 hgr5 hlo5; obtain ⟨p5, N5, c5, rfl⟩ := OwnF.shape3 h5; obtain ⟨hf5, hE⟩ := wr_end HS3.out HN3.out HA.out HFd.out HFl.out G3.out HOl3.out HFi3.out HWr3.out HG4.out hs4 h5 hgr5 hlo5 HPut.out HGl.out; have HE := Lib.hid hE; obtain ⟨b05, -, -⟩ := hf5.cells; have f05 := frozen_of_row w5 g 0 _ _ hf5; have hlg5 : g < w5.heap.size := (Array.getElem?_eq_some_iff.1 hf5).1; clear hE hf5 h5 hgr5 hlo5))
        try go_frame
        go_wp2_with fail
        refine (done_ok (WrU.on HE.out)).mono ?_
        rintro e w6 ⟨rfl, rfl⟩
        go_wp2_with fail
        go_ret
        exact ⟨rfl, HE.out⟩
      · have hbk' : ¬ (bc : Int) = (k : Int) := by omega
        have hbf : fromV (.slice (some ⟨bb, off, none⟩) B.length bc) k = .slice (some ⟨bb, off + k, none⟩) (B.length - k) (bc - k) := by
          show Value.slice (some ⟨bb, if bc = k then off else off + k, none⟩) (B.length - k) (bc - k) = _
          rw [if_neg hbk]
        rw [hbf] at HB5
        clear hbf
        go_region_law ((refine step_appB (by rfl) _ _ (by rfl) (by rfl) (by rfl) (show OwnF nF w4.drew _ _ from HF4.out) (show RdIn nB w4.drew _ (B.drop k) from HB5.out) (by have := HK2.out; omega) (HnFw.out) ?_; intro v5 w5 h5 hgr5 hlo5; obtain ⟨p5, N5, c5, rfl⟩ := OwnF.shape3 h5; obtain ⟨hf5, hE⟩ := wr_end HS3.out HN3.out HA.out HFd.out HFl.out G3.out HOl3.out HFi3.out HWr3.out HG4.out hs4 h5 hgr5 hlo5 HPut.out HGl.out; have HE := Lib.hid hE; obtain ⟨b05, -, -⟩ := hf5.cells; have f05 := frozen_of_row w5 g 0 _ _ hf5; have hlg5 : g < w5.heap.size := (Array.getElem?_eq_some_iff.1 hf5).1; clear hE hf5 h5 hgr5 hlo5))
        try go_frame
        go_wp2_with fail
        refine (done_ok (WrU.on HE.out)).mono ?_
        rintro e w6 ⟨rfl, rfl⟩
        go_wp2_with fail
        go_ret
        exact ⟨rfl, HE.out⟩
  · injection hfv0 with hfv0 _ hfv1
    subst hfv0 hfv1
    by_cases hfa : fc = at_
    · obtain rfl : fc = L.length := by have := HAt.out; have := HC.out; omega
      subst hfa
      have hfrom : fromV (.slice (some ⟨gb, 0, none⟩) L.length L.length) L.length = .slice (some ⟨gb, 0, none⟩) 0 0 := by
        show Value.slice (some ⟨gb, if L.length = L.length then 0 else 0 + L.length, none⟩) (L.length - L.length) (L.length - L.length) = _
        rw [if_pos rfl, Nat.sub_self]
      rw [hfrom] at hr4
      clear hfrom
      go_wp2_with fail
      rcases HB4.out with ⟨hB0, hbp | ⟨⟨ab, ao, asp⟩, bcap, hbp⟩⟩ | ⟨bb, off, bcap, hbp, -⟩
      · subst hB0
        injection hbp with hbp _ hbq
        subst hbp hbq
        obtain rfl : k = 0 := by have := HK2.out.1; simpa using this
        go_region_law ((refine step_appB (by rfl) _ _ (by rfl) (by rfl) (by rfl) (show OwnF nF w4.drew _ _ from HF4.out) (show RdIn nB w4.drew (.slice none 0 0) (([] : List UInt8).drop 0) from .inl ⟨rfl, .inl rfl⟩) (by have := HK2.out; omega) (HnFw.out) ?_; intro v5 w5 h5 hgr5 hlo5; obtain ⟨p5, N5, c5, rfl⟩ := OwnF.shape3 h5; obtain ⟨hf5, hE⟩ := wr_end HS3.out HN3.out HA.out HFd.out HFl.out G3.out HOl3.out HFi3.out HWr3.out HG4.out hs4 h5 hgr5 hlo5 HPut.out HGl.out; have HE := Lib.hid hE; obtain ⟨b05, -, -⟩ := hf5.cells; have f05 := frozen_of_row w5 g 0 _ _ hf5; have hlg5 : g < w5.heap.size := (Array.getElem?_eq_some_iff.1 hf5).1; clear hE hf5 h5 hgr5 hlo5))
        try go_frame
        go_wp2_with fail
        refine (done_ok (WrU.on HE.out)).mono ?_
        rintro e w6 ⟨rfl, rfl⟩
        go_wp2_with fail
        go_ret
        exact ⟨rfl, HE.out⟩
      · subst hB0
        injection hbp with hbp _ hbq
        subst hbp hbq
        obtain rfl : k = 0 := by have := HK2.out.1; simpa using this
        by_cases hbk : bc = 0
        · subst hbk
          go_region_law ((refine step_appB (by rfl) _ _ (by rfl) (by rfl) (by rfl) (show OwnF nF w4.drew _ _ from HF4.out) (show RdIn nB w4.drew (.slice (some ⟨ab, ao, asp⟩) 0 0) (([] : List UInt8).drop 0) from .inl ⟨rfl, .inr ⟨_, _, rfl⟩⟩) (by have := HK2.out; omega) (HnFw.out) ?_; intro v5 w5 h5 hgr5 hlo5; obtain ⟨p5, N5, c5, rfl⟩ := OwnF.shape3 h5; obtain ⟨hf5, hE⟩ := wr_end HS3.out HN3.out HA.out HFd.out HFl.out G3.out HOl3.out HFi3.out HWr3.out HG4.out hs4 h5 hgr5 hlo5 HPut.out HGl.out; have HE := Lib.hid hE; obtain ⟨b05, -, -⟩ := hf5.cells; have f05 := frozen_of_row w5 g 0 _ _ hf5; have hlg5 : g < w5.heap.size := (Array.getElem?_eq_some_iff.1 hf5).1; clear hE hf5 h5 hgr5 hlo5))
          try go_frame
          go_wp2_with fail
          refine (done_ok (WrU.on HE.out)).mono ?_
          rintro e w6 ⟨rfl, rfl⟩
          go_wp2_with fail
          go_ret
          exact ⟨rfl, HE.out⟩
        · have hbk' : ¬ (bc : Int) = 0 := by omega
          go_region_law ((refine step_appB (by rfl) _ _ (by rfl) (by rfl) (by rfl) (show OwnF nF w4.drew _ _ from HF4.out) (show RdIn nB w4.drew (.slice (some ⟨ab, ao, asp⟩) 0 bc) (([] : List UInt8).drop 0) from .inl ⟨rfl, .inr ⟨_, _, rfl⟩⟩) (by have := HK2.out; omega) (HnFw.out) ?_; intro v5 w5 h5 hgr5 hlo5; obtain ⟨p5, N5, c5, rfl⟩ := OwnF.shape3 h5; obtain ⟨hf5, hE⟩ := wr_end HS3.out HN3.out HA.out HFd.out HFl.out G3.out HOl3.out HFi3.out HWr3.out HG4.out hs4 h5 hgr5 hlo5 HPut.out HGl.out; have HE := Lib.hid hE; obtain ⟨b05, -, -⟩ := hf5.cells; have f05 := frozen_of_row w5 g 0 _ _ hf5; have hlg5 : g < w5.heap.size := (Array.getElem?_eq_some_iff.1 hf5).1; clear hE hf5 h5 hgr5 hlo5))
          try go_frame
          go_wp2_with fail
          refine (done_ok (WrU.on HE.out)).mono ?_
          rintro e w6 ⟨rfl, rfl⟩
          go_wp2_with fail
          go_ret
          exact ⟨rfl, HE.out⟩
      · injection hbp with hbp _ hbq
        subst hbp hbq
        by_cases hbk : bc = k
        · have hbl : B.length = k := by have := HK2.out; have := HC.out; omega
          have hbi : (bc : Int) = (k : Int) := by omega
          have hbj : B.length - k = 0 := by omega
          go_region_law ((refine step_appB (by rfl) _ _ (by rfl) (by rfl) (by rfl) (show OwnF nF w4.drew _ _ from HF4.out) (show RdIn nB w4.drew (.slice (some ⟨bb, off, none⟩) 0 0) (B.drop k) from .inl ⟨List.drop_of_length_le (by omega), .inr ⟨_, _, rfl⟩⟩) (by have := HK2.out; omega) (HnFw.out) ?_; intro v5 w5 h5 hgr5 hlo5; obtain ⟨p5, N5, c5, rfl⟩ := OwnF.shape3 h5; obtain ⟨hf5, hE⟩ := wr_end HS3.out HN3.out HA.out HFd.out HFl.out G3.out HOl3.out HFi3.out HWr3.out HG4.out hs4 h5 hgr5 hlo5 HPut.out HGl.out; have HE := Lib.hid hE; obtain ⟨b05, -, -⟩ := hf5.cells; have f05 := frozen_of_row w5 g 0 _ _ hf5; have hlg5 : g < w5.heap.size := (Array.getElem?_eq_some_iff.1 hf5).1; clear hE hf5 h5 hgr5 hlo5))
          try go_frame
          go_wp2_with fail
          refine (done_ok (WrU.on HE.out)).mono ?_
          rintro e w6 ⟨rfl, rfl⟩
          go_wp2_with fail
          go_ret
          exact ⟨rfl, HE.out⟩
        · have hbk' : ¬ (bc : Int) = (k : Int) := by omega
          have hbf : fromV (.slice (some ⟨bb, off, none⟩) B.length bc) k = .slice (some ⟨bb, off + k, none⟩) (B.length - k) (bc - k) := by
            show Value.slice (some ⟨bb, if bc = k then off else off + k, none⟩) (B.length - k) (bc - k) = _
            rw [if_neg hbk]
          rw [hbf] at HB5
          clear hbf
          go_region_law ((refine step_appB (by rfl) _ _ (by rfl) (by rfl) (by rfl) (show OwnF nF w4.drew _ _ from HF4.out) (show RdIn nB w4.drew _ (B.drop k) from HB5.out) (by have := HK2.out; omega) (HnFw.out) ?_; intro v5 w5 h5 hgr5 hlo5; obtain ⟨p5, N5, c5, rfl⟩ := OwnF.shape3 h5; obtain ⟨hf5, hE⟩ := wr_end HS3.out HN3.out HA.out HFd.out HFl.out G3.out HOl3.out HFi3.out HWr3.out HG4.out hs4 h5 hgr5 hlo5 HPut.out HGl.out; have HE := Lib.hid hE; obtain ⟨b05, -, -⟩ := hf5.cells; have f05 := frozen_of_row w5 g 0 _ _ hf5; have hlg5 : g < w5.heap.size := (Array.getElem?_eq_some_iff.1 hf5).1; clear hE hf5 h5 hgr5 hlo5))
          try go_frame
          go_wp2_with fail
          refine (done_ok (WrU.on HE.out)).mono ?_
          rintro e w6 ⟨rfl, rfl⟩
          go_wp2_with fail
          go_ret
          exact ⟨rfl, HE.out⟩
    · have hfa' : ¬ (fc : Int) = (at_ : Int) := by omega
      have hfa2 : (at_ : Int) < (fc : Int) := by have := HAt.out; have := HC.out; omega
      have hfrom : fromV (.slice (some ⟨gb, 0, none⟩) L.length fc) at_ = .slice (some ⟨gb, at_, none⟩) (L.length - at_) (fc - at_) := by
        show Value.slice (some ⟨gb, if fc = at_ then 0 else 0 + at_, none⟩) (L.length - at_) (fc - at_) = _
        rw [if_neg hfa, Nat.zero_add]
      rw [hfrom] at hr4
      clear hfrom
      go_wp2_with fail
      rcases HB4.out with ⟨hB0, hbp | ⟨⟨ab, ao, asp⟩, bcap, hbp⟩⟩ | ⟨bb, off, bcap, hbp, -⟩
      · subst hB0
        injection hbp with hbp _ hbq
        subst hbp hbq
        obtain rfl : k = 0 := by have := HK2.out.1; simpa using this
        go_region_law ((refine step_appB (by rfl) _ _ (by rfl) (by rfl) (by rfl) (show OwnF nF w4.drew _ _ from HF4.out) (show RdIn nB w4.drew (.slice none 0 0) (([] : List UInt8).drop 0) from .inl ⟨rfl, .inl rfl⟩) (by have := HK2.out; omega) (HnFw.out) ?_; intro v5 w5 h5 hgr5 hlo5; obtain ⟨p5, N5, c5, rfl⟩ := OwnF.shape3 h5; obtain ⟨hf5, hE⟩ := wr_end HS3.out HN3.out HA.out HFd.out HFl.out G3.out HOl3.out HFi3.out HWr3.out HG4.out hs4 h5 hgr5 hlo5 HPut.out HGl.out; have HE := Lib.hid hE; obtain ⟨b05, -, -⟩ := hf5.cells; have f05 := frozen_of_row w5 g 0 _ _ hf5; have hlg5 : g < w5.heap.size := (Array.getElem?_eq_some_iff.1 hf5).1; clear hE hf5 h5 hgr5 hlo5))
        try go_frame
        go_wp2_with fail
        refine (done_ok (WrU.on HE.out)).mono ?_
        rintro e w6 ⟨rfl, rfl⟩
        go_wp2_with fail
        go_ret
        exact ⟨rfl, HE.out⟩
      · subst hB0
        injection hbp with hbp _ hbq
        subst hbp hbq
        obtain rfl : k = 0 := by have := HK2.out.1; simpa using this
        by_cases hbk : bc = 0
        · subst hbk
          go_region_law ((refine step_appB (by rfl) _ _ (by rfl) (by rfl) (by rfl) (show OwnF nF w4.drew _ _ from HF4.out) (show RdIn nB w4.drew (.slice (some ⟨ab, ao, asp⟩) 0 0) (([] : List UInt8).drop 0) from .inl ⟨rfl, .inr ⟨_, _, rfl⟩⟩) (by have := HK2.out; omega) (HnFw.out) ?_; intro v5 w5 h5 hgr5 hlo5; obtain ⟨p5, N5, c5, rfl⟩ := OwnF.shape3 h5; obtain ⟨hf5, hE⟩ := wr_end HS3.out HN3.out HA.out HFd.out HFl.out G3.out HOl3.out HFi3.out HWr3.out HG4.out hs4 h5 hgr5 hlo5 HPut.out HGl.out; have HE := Lib.hid hE; obtain ⟨b05, -, -⟩ := hf5.cells; have f05 := frozen_of_row w5 g 0 _ _ hf5; have hlg5 : g < w5.heap.size := (Array.getElem?_eq_some_iff.1 hf5).1; clear hE hf5 h5 hgr5 hlo5))
          try go_frame
          go_wp2_with fail
          refine (done_ok (WrU.on HE.out)).mono ?_
          rintro e w6 ⟨rfl, rfl⟩
          go_wp2_with fail
          go_ret
          exact ⟨rfl, HE.out⟩
        · have hbk' : ¬ (bc : Int) = 0 := by omega
          go_region_law ((refine step_appB (by rfl) _ _ (by rfl) (by rfl) (by rfl) (show OwnF nF w4.drew _ _ from HF4.out) (show RdIn nB w4.drew (.slice (some ⟨ab, ao, asp⟩) 0 bc) (([] : List UInt8).drop 0) from .inl ⟨rfl, .inr ⟨_, _, rfl⟩⟩) (by have := HK2.out; omega) (HnFw.out) ?_; intro v5 w5 h5 hgr5 hlo5; obtain ⟨p5, N5, c5, rfl⟩ := OwnF.shape3 h5; obtain ⟨hf5, hE⟩ := wr_end HS3.out HN3.out HA.out HFd.out HFl.out G3.out HOl3.out HFi3.out HWr3.out HG4.out hs4 h5 hgr5 hlo5 HPut.out HGl.out; have HE := Lib.hid hE; obtain ⟨b05, -, -⟩ := hf5.cells; have f05 := frozen_of_row w5 g 0 _ _ hf5; have hlg5 : g < w5.heap.size := (Array.getElem?_eq_some_iff.1 hf5).1; clear hE hf5 h5 hgr5 hlo5))
          try go_frame
          go_wp2_with fail
          refine (done_ok (WrU.on HE.out)).mono ?_
          rintro e w6 ⟨rfl, rfl⟩
          go_wp2_with fail
          go_ret
          exact ⟨rfl, HE.out⟩
      · injection hbp with hbp _ hbq
        subst hbp hbq
        by_cases hbk : bc = k
        · have hbl : B.length = k := by have := HK2.out; have := HC.out; omega
          have hbi : (bc : Int) = (k : Int) := by omega
          have hbj : B.length - k = 0 := by omega
          go_region_law ((refine step_appB (by rfl) _ _ (by rfl) (by rfl) (by rfl) (show OwnF nF w4.drew _ _ from HF4.out) (show RdIn nB w4.drew (.slice (some ⟨bb, off, none⟩) 0 0) (B.drop k) from .inl ⟨List.drop_of_length_le (by omega), .inr ⟨_, _, rfl⟩⟩) (by have := HK2.out; omega) (HnFw.out) ?_; intro v5 w5 h5 hgr5 hlo5; obtain ⟨p5, N5, c5, rfl⟩ := OwnF.shape3 h5; obtain ⟨hf5, hE⟩ := wr_end HS3.out HN3.out HA.out HFd.out HFl.out G3.out HOl3.out HFi3.out HWr3.out HG4.out hs4 h5 hgr5 hlo5 HPut.out HGl.out; have HE := Lib.hid hE; obtain ⟨b05, -, -⟩ := hf5.cells; have f05 := frozen_of_row w5 g 0 _ _ hf5; have hlg5 : g < w5.heap.size := (Array.getElem?_eq_some_iff.1 hf5).1; clear hE hf5 h5 hgr5 hlo5))
          try go_frame
          go_wp2_with fail
          refine (done_ok (WrU.on HE.out)).mono ?_
          rintro e w6 ⟨rfl, rfl⟩
          go_wp2_with fail
          go_ret
          exact ⟨rfl, HE.out⟩
        · have hbk' : ¬ (bc : Int) = (k : Int) := by omega
          have hbf : fromV (.slice (some ⟨bb, off, none⟩) B.length bc) k = .slice (some ⟨bb, off + k, none⟩) (B.length - k) (bc - k) := by
            show Value.slice (some ⟨bb, if bc = k then off else off + k, none⟩) (B.length - k) (bc - k) = _
            rw [if_neg hbk]
          rw [hbf] at HB5
          clear hbf
          go_region_law ((refine step_appB (by rfl) _ _ (by rfl) (by rfl) (by rfl) (show OwnF nF w4.drew _ _ from HF4.out) (show RdIn nB w4.drew _ (B.drop k) from HB5.out) (by have := HK2.out; omega) (HnFw.out) ?_; intro v5 w5 h5 hgr5 hlo5; obtain ⟨p5, N5, c5, rfl⟩ := OwnF.shape3 h5; obtain ⟨hf5, hE⟩ := wr_end HS3.out HN3.out HA.out HFd.out HFl.out G3.out HOl3.out HFi3.out HWr3.out HG4.out hs4 h5 hgr5 hlo5 HPut.out HGl.out; have HE := Lib.hid hE; obtain ⟨b05, -, -⟩ := hf5.cells; have f05 := frozen_of_row w5 g 0 _ _ hf5; have hlg5 : g < w5.heap.size := (Array.getElem?_eq_some_iff.1 hf5).1; clear hE hf5 h5 hgr5 hlo5))
          try go_frame
          go_wp2_with fail
          refine (done_ok (WrU.on HE.out)).mono ?_
          rintro e w6 ⟨rfl, rfl⟩
          go_wp2_with fail
          go_ret
          exact ⟨rfl, HE.out⟩
end
end Go.Proofs.YtdjhfcopnhcljaaGreatDoor
