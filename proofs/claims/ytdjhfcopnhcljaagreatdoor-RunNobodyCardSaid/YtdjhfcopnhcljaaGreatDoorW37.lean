/-
  A disk with one file; the closure of run.Write on a new disk.
  run's reader: a number, a counted tuple, a byte string, off the front of any bytes.
  run's reader at counted tuples; num, key, counted.
-/
import Derived.Test.YtdjhfcopnhcljaaGreatDoorW24
import Derived.Test.YtdjhfcopnhcljaaGreatDoorW10
import Derived.Test.YtdjhfcopnhcljaaGreatDoorW35
import Derived.Test.YtdjhfcopnhcljaaGreatDoorW36
import Derived.Test.YtdjhfcopnhcljaaGreatDoorW09
import Derived.Test.YtdjhfcopnhcljaaGreatDoorW21
namespace Go.Proofs.YtdjhfcopnhcljaaGreatDoor
section
open Go Go.RowKit Go.Maps Go.WideMaps

theorem newDk_R {w w1 : World} {room : Int} (h : NewDk w w1 room) : DkS w.heap.size w1 (w.heap.size + 4) w.heap.size (w.heap.size + 1) (w.heap.size + 2) (w.heap.size + 3) room 0 0 0 0 0 0 (.map []) (.map []) (.map []) (.map []) (.slice none 0 0) [] :=
  ⟨h.disk, h.files, h.olds, h.dir, h.fixed, World.ownsRow_nil _ _ _ _, by omega, fun k hk => (by cases hk), by omega⟩
theorem ownF_of {n : Nat} {w : World} {v : Value} {l : List UInt8} (h : OwnB n w v l) : OwnF n w v l := h
theorem ownB_of {n : Nat} {w : World} {v : Value} {l : List UInt8} (h : OwnF n w v l) : OwnB n w v l := h
theorem Grow.fromB {w w' : World} (h : Below w.heap.size w w') : Grow (fun _ => False) w w' := ⟨h.os, h.tape, h.output, h.size, fun k hk _ => h.block k hk⟩
/-- The blocks of a disk with one file. -/
def DkY (d F O D X g : Nat) (chg fv : Value) (k : Nat) : Prop := k = d ∨ k = F ∨ k = O ∨ k = D ∨ k = X ∨ k = g ∨ chg.ownBlock = some k ∨ fv.ownBlock = some k
/-- A disk at d that holds one file s, with bytes L, in blocks Y. -/
def FlAt (w : World) (d : Nat) (s : ByteArray) (L : List UInt8) (Y : Nat → Prop) : Prop :=
  ∃ n0 nF F O D X g room next nf no nd nx m fixed oo xx chg fv wrn xs, DkS n0 w d F O D X room next nf no nd nx m (oneM (.int .i64 0) (.pointer (some ⟨g, 0, none⟩))) oo (oneM (.string s.data.toList) (.int .i64 0)) xx chg xs ∧ FileAt w g fv fixed wrn ∧ OwnF nF w fv L ∧ (∀ k, DkY d F O D X g chg fv k → Y k)
theorem FlAt.grow {S Y : Nat → Prop} {w w' : World} {d : Nat} {s : ByteArray} {L : List UInt8} (h : FlAt w d s L Y) (hg : Grow S w w') (hS : ∀ k, S k → ¬ Y k) : FlAt w' d s L Y := by
  obtain ⟨n0, nF, F, O, D, X, g, room, next, nf, no, nd, nx, m, fixed, oo, xx, chg, fv, wrn, xs, h1, h2, h3, h4⟩ := h
  have no' : ∀ k, DkY d F O D X g chg fv k → ¬ S k := fun k e e' => hS k e' (h4 k e)
  exact ⟨n0, nF, F, O, D, X, g, room, next, nf, no, nd, nx, m, fixed, oo, xx, chg, fv, wrn, xs, h1.grow hg (no' _ (.inl rfl)) (no' _ (.inr (.inl rfl))) (no' _ (.inr (.inr (.inl rfl)))) (no' _ (.inr (.inr (.inr (.inl rfl))))) (no' _ (.inr (.inr (.inr (.inr (.inl rfl)))))) (fun k e => no' k (.inr (.inr (.inr (.inr (.inr (.inr (.inl e)))))))),
    h2.grow hg (no' _ (.inr (.inr (.inr (.inr (.inr (.inl rfl))))))), h3.grow hg (fun k e => no' k (.inr (.inr (.inr (.inr (.inr (.inr (.inr e)))))))), h4⟩
theorem FlAt.below {Y : Nat → Prop} {w w' : World} {d : Nat} {s : ByteArray} {L : List UInt8} (h : FlAt w d s L Y) (hb : Below w.heap.size w w') : FlAt w' d s L Y := h.grow (Grow.fromB hb) (fun _ e => e.elim)
theorem FlAt.made {Y : Nat → Prop} {w : World} {d : Nat} {s : ByteArray} {L : List UInt8} (h : FlAt w d s L Y) : d < w.heap.size ∧ Y d := by
  obtain ⟨n0, nF, F, O, D, X, g, room, next, nf, no, nd, nx, m, fixed, oo, xx, chg, fv, wrn, xs, h1, h2, h3, h4⟩ := h
  exact ⟨h1.on.lt, h4 d (.inl rfl)⟩
theorem flsize_any {Y : Nat → Prop} {w : World} {d : Nat} {s : ByteArray} {L : List UInt8} (h : FlAt w d s L Y) (hs : s.size ≤ 64) :
    Calls Tryz.prog 77 #[.pointer (some ⟨d, 0, none⟩), .string s] w fun e w' => e = .returned (.tuple #[.int .i64 (L.length : Int), .int .i64 0]) ∧ Grow (fun _ => False) w w' := by
  obtain ⟨n0, nF, F, O, D, X, g, room, next, nf, no, nd, nx, m, fixed, oo, xx, chg, fv, wrn, xs, h1, h2, h3, h4⟩ := h
  exact size_any h1 hs h2 h3
theorem flread_any {Y : Nat → Prop} {w : World} {d : Nat} {s : ByteArray} {L : List UInt8} (h : FlAt w d s L Y) (hs : s.size ≤ 64) (hL : L.length ≤ 10000) :
    Calls Tryz.prog 78 #[.pointer (some ⟨d, 0, none⟩), .string s, .int .i64 0, .int .i64 (L.length : Int)] w fun e w' => ∃ v, e = .returned (.tuple #[v, .int .i64 0]) ∧ OwnF w.heap.size w' v L ∧ Grow (fun _ => False) w w' := by
  obtain ⟨n0, nF, F, O, D, X, g, room, next, nf, no, nd, nx, m, fixed, oo, xx, chg, fv, wrn, xs, h1, h2, h3, h4⟩ := h
  exact read_full h1 hs h2 h3 hL
theorem cell_at {w : World} {b : Nat} {v : Value} {t : TypeId} (h : w.heap[b]? = some (.cells #[v] t (0, 0))) : w.cell? ⟨b, 0, none⟩ = some v ∧ w.frozen? ⟨b, 0, none⟩ = false := ⟨(cell_of_row w b 0 _ _ (0, 0) h).trans rfl, frozen_of_row w b 0 _ _ h⟩
/-- A block of other cells is not the row of changes. -/
theorem chg_far {n0 m k : Nat} {w : World} {chg v : Value} {xs : List Value} {t : TypeId} (h : w.ownsRow n0 138 3 chg m xs) (hf : w.heap[k]? = some (.cells #[v] t (0, 0))) (ht : t ≠ 138) : chg.ownBlock ≠ some k := by
  intro e
  obtain ⟨-, cur, hc⟩ := own_blockD h k e
  rw [hf] at hc
  injection hc with hc
  injection hc with _ hc _
  exact ht hc
theorem chg_file {n0 m g : Nat} {w : World} {chg a b c : Value} {xs : List Value} (h : w.ownsRow n0 138 3 chg m xs) (hf : w.heap[g]? = some (.cells #[a, b, c] 135 (0, 0))) : chg.ownBlock ≠ some g := by
  intro e
  obtain ⟨-, cur, hc⟩ := own_blockD h g e
  rw [hf] at hc
  injection hc with hc
  injection hc with _ hc _
  exact absurd hc (by decide)
theorem runL_pos {E : List Ct} {L : List UInt8} (h : runL E = L) : 0 < L.length := by
  have h1 : 0 < (tailL E).length := by unfold tailL; rw [sealL_len]; omega
  rw [← h]
  unfold runL
  rw [List.length_append]
  omega
theorem put_none (B : List UInt8) : put_ [] B 0 = B := by simp [put_]
/-- Behind the closure: a disk with the run's file; the boxes and the error's variable are untouched. -/
def WroteAt (n0 n1 Eb d : Nat) (s : ByteArray) (L : List UInt8) (w w' : World) : Prop := ∃ Y, FlAt w' d s L Y ∧ (∀ k, Y k → n0 ≤ k ∧ k ≠ Eb ∧ k < w'.heap.size) ∧ Below n0 w w' ∧ n1 ≤ w'.heap.size
set_option maxRecDepth 100000 in
set_option maxHeartbeats 4000000 in
theorem write1_any {n0 n1 bl bd bs Eb : Nat} {w : World} {room : Int} (v : Value) (E : List Ct) (s : ByteArray)
    (h : DkS n0 w (n0 + 4) n0 (n0 + 1) (n0 + 2) (n0 + 3) room 0 0 0 0 0 0 (.map []) (.map []) (.map []) (.map []) (.slice none 0 0) []) (hn1 : n1 = n0 + 5) (hroom : 100 ≤ room)
    (hbl : w.heap[bl]? = some (.cells #[v] 22 (0, 0)) ∧ n1 ≤ bl) (hbd : w.heap[bd]? = some (.cells #[.pointer (some ⟨n0 + 4, 0, none⟩)] 43 (0, 0)) ∧ n1 ≤ bd) (hbs : w.heap[bs]? = some (.cells #[.string s] 9 (0, 0)) ∧ n1 ≤ bs)
    (hEb : w.heap[Eb]? = some (.cells #[.int .i64 0] 25 (0, 0)) ∧ n1 ≤ Eb) (hv : EnIn w.heap.size w v E) (hE : E.length ≤ 1000) (hK : Kin E) (hR : IsRun E) (hL : (runL E).length ≤ 1000) (hs : 1 ≤ s.size ∧ s.size ≤ 64) (G : Glob w) (Rx : Int → World → Prop) :
    Calls Tryz.prog 67 #[.pointer (some ⟨bl, 0, none⟩), .pointer (some ⟨bd, 0, none⟩), .pointer (some ⟨bs, 0, none⟩)] w (DoEnd Eb (WroteAt n0 n1 Eb (n0 + 4) s (runL E) w) Rx) := by
  have HS := Lib.hid h
  have HBl := Lib.hid hbl
  have HBd := Lib.hid hbd
  have HBs := Lib.hid hbs
  have HEb := Lib.hid hEb
  have HLn := Lib.hid (And.intro hL hs)
  have HN := Lib.hid hn1
  have HBy := Lib.hid (runBytes_any v E w hv hE hK G)
  have HR := Lib.hid hR
  have c0 := (cell_at hbl.1).1
  have lt : ∀ {k : Nat} {o : Obj}, w.heap[k]? = some o → k < w.heap.size := fun h => (Array.getElem?_eq_some_iff.1 h).1
  have HLt := Lib.hid (show bl < w.heap.size ∧ bd < w.heap.size ∧ bs < w.heap.size ∧ Eb < w.heap.size from ⟨lt hbl.1, lt hbd.1, lt hbs.1, lt hEb.1⟩)
  obtain ⟨pv, cv, rfl, -⟩ := hv
  clear h hbl hbd hbs hEb hL hs hn1 hR G lt
  go_enter Tryz.func67, Tryz.ntmps67
  go_wp2_with fail
  refine HBy.out.mono ?_
  rintro e w1 ⟨⟨-, v1, rfl, ho1⟩ | ⟨hno, -⟩, hb1⟩
  · obtain ⟨L, hL⟩ : ∃ L, L = runL E := ⟨_, rfl⟩
    have HRl := Lib.hid hL.symm
    rw [← hL] at ho1 HLn ⊢
    obtain ⟨q1, d1, rfl⟩ := ho1.in_.shape
    have HO1 := Lib.hid ho1
    have HB1 := Lib.hid hb1
    have HS1 := Lib.hid (HS.out.same (Grow.fromB hb1))
    have HD1 := Lib.hid ((hb1.block _ HLt.out.2.1).trans HBd.out.1)
    have HN1 := Lib.hid ((hb1.block _ HLt.out.2.2.1).trans HBs.out.1)
    have HE1 := Lib.hid ((hb1.block _ HLt.out.2.2.2).trans HEb.out.1)
    have c1 := (cell_at HD1.out).1
    have c2 := (cell_at HN1.out).1
    clear ho1 hb1 hL c0
    go_wp2_with fail
    refine (gotB_ok _ _).mono ?_
    rintro e w2 ⟨rfl, rfl⟩
    go_wp2_with fail
    refine (create_any s HS1.out HLn.out.2 (by decide) (by omega) (by omega) rfl rfl (by decide)).mono ?_
    rintro e w2 ⟨rfl, chg, hS2, hF2, hg2⟩
    obtain ⟨g, HGe⟩ : ∃ g, Hid (g = w1.heap.size) := ⟨_, Lib.hid rfl⟩
    rw [← HGe.out] at hS2 hF2
    have hS2' : DkS n0 w2 (n0 + 4) n0 (n0 + 1) (n0 + 2) (n0 + 3) room 1 1 0 1 0 1 (oneM (.int .i64 0) (.pointer (some ⟨g, 0, none⟩))) (.map []) (oneM (.string s.data.toList) (.int .i64 0)) (.map []) chg [.string ⟨#[]⟩, .string s, .int .i64 0] := hS2
    have hF2' : FileAt w2 g (.slice none 0 0) 0 (.slice none 0 0) := hF2
    have HC2 := Lib.hid (chg_file hS2'.own hF2')
    have HSz := Lib.hid (And.intro HB1.out.size (And.intro hg2.size (show g < w2.heap.size from (Array.getElem?_eq_some_iff.1 hF2').1)))
    have far : ∀ k, n1 ≤ k → ¬ CrS (n0 + 4) n0 (n0 + 2) (.slice none 0 0) k := by
      rintro k hk (e | e | e | e)
      · have := HN.out; omega
      · have := HN.out; omega
      · have := HN.out; omega
      · cases e
    have HD2 := Lib.hid ((hg2.block _ (Array.getElem?_eq_some_iff.1 HD1.out).1 (far _ HBd.out.2)).trans HD1.out)
    have HN2 := Lib.hid ((hg2.block _ (Array.getElem?_eq_some_iff.1 HN1.out).1 (far _ HBs.out.2)).trans HN1.out)
    have HE2 := Lib.hid ((hg2.block _ (Array.getElem?_eq_some_iff.1 HE1.out).1 (far _ HEb.out.2)).trans HE1.out)
    have hn1w : n1 ≤ w.heap.size := by have h1 := HBl.out.2; have h2 := HLt.out.1; omega
    have HO2 := Lib.hid ((ownF_of HO1.out).grow hg2 (fun k hk => far k (Nat.le_trans hn1w (World.ownsRow.lt HO1.out k hk).1)))
    have HOl := Lib.hid (fun k (hk : (Value.slice q1 L.length d1).ownBlock = some k) => World.ownsRow.lt HO1.out k hk)
    have HB2 := Lib.hid ((HB1.out.mono (show n0 ≤ w.heap.size by have := HN.out; omega)).trans (hg2.below (show n0 ≤ w1.heap.size by have := HN.out; have := HB1.out.size; omega) (fun k e => by rcases e with e | e | e | e; omega; omega; omega; cases e)))
    have HS2 := Lib.hid hS2'
    have HF2 := Lib.hid hF2'
    have c3 := (cell_at HD2.out).1
    have c4 := (cell_at HN2.out).1
    have HG := Lib.hid (show g = w1.heap.size ∧ n1 ≤ w.heap.size from ⟨HGe.out, hn1w⟩)
    clear hS2 hF2 hS2' hF2' hg2 far hn1w c1 c2 HS1 HD1 HN1 HE1 HO1
    go_wp2_with fail
    refine (need_ok _).mono ?_
    rintro e w3 ⟨⟨u, rfl⟩, rfl⟩
    have hLp : 0 < L.length := runL_pos HRl.out
    have HW := Lib.hid (write_grow (s := s) (nF := w2.heap.size) (nB := w2.heap.size) (bv := .slice q1 L.length d1) (B := L) HS2.out HLn.out.2.2 (Olds.empty w2 0) HF2.out (OwnF.nil w2.heap.size w2) (by simp) (by have := HG.out; have := HN.out; have := HSz.out; have := HC2.out; refine ⟨by omega, by omega, by omega, by omega, by omega, this⟩) (fun b hb => by cases hb) (by omega) HO2.out.read (Nat.le_refl _) (Nat.le_refl _) HLn.out.1
      (fun b off n c e => by
        obtain ⟨e1, -, -⟩ := Value.slice.inj e
        have := HOl.out b (by rw [e1]; rfl)
        have := HG.out; have := HN.out
        exact ⟨by omega, by omega, fun h => by cases h⟩)
      (fun p n c e => by
        obtain ⟨-, p', cap', e', h1, h2⟩ := (ownB_of HO2.out).byC
        obtain ⟨-, e2, e3⟩ := Value.slice.inj e
        obtain ⟨-, -, e4⟩ := Value.slice.inj e'
        unfold maxLen at h2
        omega) 0 (Nat.le_refl _) (by omega) (0 + L.length) rfl (by simpa using hLp))
    go_wp2_with fail
    refine HW.out.mono ?_
    rintro e w3 ⟨rfl, oo3, no3, i3, j3, fv3, wrn3, hno3, hj3, hS3, hg3, hO3, hF3, hf3, hw3, hb3⟩
    rw [put_none] at hf3
    have far : ∀ k, n1 ≤ k → k < w1.heap.size → ¬ (k = n0 + 1 ∨ k = g ∨ (Value.slice none 0 0).ownBlock = some k) := by
      rintro k hk hl (e | e | e)
      · have := HN.out; omega
      · have := HG.out; omega
      · cases e
    have hlt1 := HB1.out.size
    have HD3 := Lib.hid ((hg3.block _ (Array.getElem?_eq_some_iff.1 HD2.out).1 (far _ HBd.out.2 (Nat.lt_of_lt_of_le HLt.out.2.1 hlt1))).trans HD2.out)
    have HN3 := Lib.hid ((hg3.block _ (Array.getElem?_eq_some_iff.1 HN2.out).1 (far _ HBs.out.2 (Nat.lt_of_lt_of_le HLt.out.2.2.1 hlt1))).trans HN2.out)
    have HE3 := Lib.hid ((hg3.block _ (Array.getElem?_eq_some_iff.1 HE2.out).1 (far _ HEb.out.2 (Nat.lt_of_lt_of_le HLt.out.2.2.2 hlt1))).trans HE2.out)
    have hsz := HSz.out
    have hnn := HN.out
    have hgg := HG.out
    have HB3 := Lib.hid (HB2.out.trans (hg3.below (show n0 ≤ w2.heap.size by omega) (fun k e => by rcases e with e | e | e; omega; omega; cases e)))
    have HSy := Lib.hid (sync_any (s := s) hS3 HLn.out.2.2 hO3 hF3 hf3 hw3 (by have := HC2.out; refine ⟨by omega, by omega, by omega, by omega, by omega, this⟩) (by omega) hj3)
    have Hf3 := Lib.hid hf3
    have HBb3 := Lib.hid hb3
    have HS3' := Lib.hid hS3.own
    have HSz3 := Lib.hid hg3.size
    have c5 := (cell_at HD3.out).1
    have c6 := (cell_at HN3.out).1
    clear far hlt1 hsz hnn hgg hno3 hj3 hS3 hg3 hO3 hF3 hf3 hw3 hb3 HW HS2 HF2 HD2 HN2 HE2 HB2 HO2 c3 c4
    go_wp2_with fail
    refine (need_ok _).mono ?_
    rintro e w4 ⟨⟨u, rfl⟩, rfl⟩
    go_wp2_with fail
    refine HSy.out.mono ?_
    rintro e w4 ⟨rfl, oo4, hS4, hO4, hF4, hg4⟩
    have hsz := HSz.out
    have hnn := HN.out
    have hgg := HG.out
    have hs3 := HSz3.out
    have far : ∀ k, n1 ≤ k → k < w1.heap.size → ¬ (k = n0 + 1 ∨ k = g) := by
      rintro k hk hl (e | e)
      · omega
      · omega
    have HE4 := Lib.hid ((hg4.block _ (Array.getElem?_eq_some_iff.1 HE3.out).1 (far _ HEb.out.2 (Nat.lt_of_lt_of_le HLt.out.2.2.2 hsz.1))).trans HE3.out)
    have HB4 := Lib.hid (HB3.out.trans (hg4.below (show n0 ≤ w3.heap.size by omega) (fun k e => by rcases e with e | e; omega; omega)))
    have hf4 := Hf3.out.grow hg4 (fun k hk e => by
      have h1 := (World.ownsRow.lt Hf3.out k hk).1
      rcases e with e | e
      · omega
      · omega)
    have hch := chg_far hS4.own HE4.out (by decide)
    have HEnd := Lib.hid (show WroteAt n0 n1 Eb (n0 + 4) s L w w4 from ⟨DkY (n0 + 4) n0 (n0 + 1) (n0 + 2) (n0 + 3) g chg fv3, ⟨n0, w2.heap.size, n0, n0 + 1, n0 + 2, n0 + 3, g, room, 1, 1, no3, 1, 0, 1, _, oo4, _, chg, fv3, _, _, hS4, hF4, hf4, fun k e => e⟩, (by
      have hl := hS4.on.lt
      have hEl := HLt.out.2.2.2
      have h4 := hg4.size
      have hEn := HEb.out.2
      rintro k (e | e | e | e | e | e | e | e)
      · omega
      · omega
      · omega
      · omega
      · omega
      · omega
      · have h1 := World.ownsRow.lt hS4.own k e
        exact ⟨h1.1, fun e' => hch (by rw [← e']; exact e), h1.2⟩
      · have h1 := World.ownsRow.lt hf4 k e
        omega), HB4.out, by have := hg4.size; omega⟩)
    clear hsz hnn hgg hs3 far hS4 hO4 hF4 hg4 hf4 hch HSy
    go_wp2_with fail
    refine (need_ok _).mono ?_
    rintro e w5 ⟨⟨u, rfl⟩, rfl⟩
    go_wp2_with fail
    refine bodyPost_end (results_none rfl _ _ _) rfl ?_
    rw [HRl.out]
    exact ⟨cell_at HE4.out, .inl ⟨⟨_, rfl⟩, HEnd.out⟩⟩
  · exact absurd HR.out hno
end
section
open Go Go.RowKit

/-- Block R holds the bytes that are still to be read; they lie below n₀. -/
def RdB (n₀ : Nat) (w : World) (R : Nat) (l : List UInt8) : Prop :=
  n₀ ≤ R ∧ ∃ p cap, w.heap[R]? = some (.cells #[.slice p l.length cap] 184 (0, 0)) ∧ l.length ≤ cap ∧ cap ≤ maxLen ∧ BytIn n₀ w (.slice p l.length cap) l
theorem RdB.lt {n₀ : Nat} {w : World} {R : Nat} {l : List UInt8} (h : RdB n₀ w R l) : R < w.heap.size := by
  obtain ⟨-, p, cap, hb, -⟩ := h
  exact (Array.getElem?_eq_some_iff.1 hb).1
theorem RdB.below {n₀ : Nat} {w w' : World} {R : Nat} {l : List UInt8} (h : RdB n₀ w R l) (hb : Below w.heap.size w w') : RdB n₀ w' R l := by
  have hlt := h.lt
  obtain ⟨hR, p, cap, h1, h2, h3, h4⟩ := h
  exact ⟨hR, p, cap, (hb.block R hlt).trans h1, h2, h3, h4.below (hb.mono (Nat.le_trans hR (Nat.le_of_lt hlt)))⟩
/-- Nothing that was there has turned but block R. -/
def OnlyR (R : Nat) (w w' : World) : Prop := Turned (fun k => k = R) w w'
theorem OnlyR.fromB {R : Nat} {w w' : World} (h : Below w.heap.size w w') : OnlyR R w w' := ⟨h.os, h.tape, h.output, h.size, fun k hk _ => h.block k hk⟩
theorem OnlyR.trans {R : Nat} {a b c : World} (h : OnlyR R a b) (g : OnlyR R b c) : OnlyR R a c :=
  ⟨Eq.trans g.os h.os, Eq.trans g.tape h.tape, Eq.trans g.output h.output, Nat.le_trans h.size g.size, fun k hk hn => (g.block k (Nat.lt_of_lt_of_le hk h.size) hn).trans (h.block k hk hn)⟩
theorem OnlyR.set (R : Nat) (w : World) (u : Value) : OnlyR R w (w.setCell ⟨R, 0, none⟩ u) :=
  ⟨rfl, rfl, rfl, by simp, fun k _ hk => heap_setCell_other w ⟨R, 0, none⟩ k u hk⟩
theorem OnlyR.below {R n : Nat} {w w' : World} (h : OnlyR R w w') (hn : n ≤ w.heap.size) (hR : n ≤ R) : Below n w w' := ⟨h.os, h.tape, h.output, h.size, fun k hk => h.block k (by omega) (fun e => by have e1 : k = R := e; omega)⟩
theorem rd_row {w : World} {R : Nat} {v u : Value} (h : w.heap[R]? = some (.cells #[v] 184 (0, 0))) : (w.setCell ⟨R, 0, none⟩ u).heap[R]? = some (.cells #[u] 184 (0, 0)) :=
  heap_setCell_same w R 0 #[v] _ u h
/-- What a reader answers: what it read, and what is left; or it panics. -/
def TkEnd {α : Type} (n₀ R : Nat) (o : Option (α × List UInt8)) (T : α → World → Value → Prop) (w : World) (e : Ending) (w' : World) : Prop :=
  ((∃ x r v, o = some (x, r) ∧ e = .returned v ∧ T x w' v ∧ RdB n₀ w' R r) ∨ (o = none ∧ e = .panicked (errP 71))) ∧ OnlyR R w w'
theorem numL_pos (x : Nat) : 0 < (numL x).length := by
  unfold numL
  split <;> simp
set_option maxRecDepth 100000 in
set_option maxHeartbeats 4000000 in
theorem takeN_any (n₀ R : Nat) (l : List UInt8) (w : World) (h : RdB n₀ w R l) :
    Calls Tryz.prog 148 #[.pointer (some ⟨R, 0, none⟩), .func (.func 149) #[] #[]] w (TkEnd n₀ R (numP l 0 0) (fun x _ v => v = .int .u64 (x : Nat)) w) := by
  have HR := Lib.hid h
  obtain ⟨hR, p, cap, hb, hc, hm, hi⟩ := h
  have c0 : w.cell? ⟨R, 0, none⟩ = some (.slice p l.length cap) := cell_of_row w R 0 _ _ (0, 0) hb
  have HI := Lib.hid hi
  have HB := Lib.hid hb
  have hm2 : cap ≤ 9223372036854775807 := hm
  have HRn := Lib.hid hR
  have HLt := Lib.hid HR.out.lt
  have HC := Lib.hid (takeNum_any (.slice p l.length cap) l w ⟨hi.mono (Nat.le_trans hR (Nat.le_of_lt HR.out.lt)), p, cap, rfl, hc, hm⟩)
  clear hb hi hm hR
  go_enter Tryz.func148, Tryz.ntmps148
  go_wp2_with fail
  refine HC.out.mono ?_
  rintro e w1 ⟨hb1, ⟨x, r, ho, rfl⟩ | ⟨ho, rfl⟩⟩
  · have hl := (fun h => (numP_all h).1) ho
    obtain ⟨N, hN⟩ : ∃ N, N = l.length - r.length := ⟨_, rfl⟩
    have hlr : l.length = N + r.length := by rw [hN]; have := congrArg List.length hl; rw [List.length_append] at this; omega
    have hN0 : 0 < N := by
      have := congrArg List.length hl
      rw [List.length_append] at this
      have h0 : 0 < (numL x).length := numL_pos x
      omega
    have hdr : l.drop N = r := by
      have : N = (numL x).length := by have := congrArg List.length hl; rw [List.length_append] at this; omega
      rw [this, hl, List.drop_left]
    rcases p with _ | a
    · exfalso
      rcases HI.out with ⟨-, rfl⟩ | ⟨a', c', e, -⟩
      · simp at hlr; omega
      · simp at e
    have hNi : (l.length : Int) - (r.length : Int) = (N : Int) := by omega
    rw [hNi]
    have HO := Lib.hid ho
    have HB1 := Lib.hid hb1
    have HB2 := Lib.hid ((hb1.block R HLt.out).trans HB.out)
    have HI1 := Lib.hid (HI.out.below (hb1.mono (Nat.le_trans HRn.out (Nat.le_of_lt HLt.out))))
    have c1 := (cell_at HB2.out).1
    have f1 := (cell_at HB2.out).2
    have HLr := Lib.hid (And.intro hlr hdr)
    have hi1 : (N : Int) ≤ (l.length : Int) := by omega
    have hi2 : (cap : Int) ≤ 9223372036854775807 := by omega
    have hi3 : (l.length : Int) ≤ (cap : Int) := by omega
    have hi4 : (0 : Int) ≤ (N : Int) := by omega
    have hi5 : (N : Int) ≤ (cap : Int) := by omega
    skip
    clear hb1 ho hl hN hlr hdr hNi c0 hN0
    go_wp2_with fail
    refine (intact_ok _).mono ?_
    rintro e w2 ⟨⟨u, rfl⟩, rfl⟩
    by_cases hcn : cap = N
    · have HE : Hid (∀ W, W = w1.setCell ⟨R, 0, none⟩ (.slice (some a) 0 0) → RdB n₀ W R r ∧ OnlyR R w W) := Lib.hid (by
        rintro W rfl
        have hr0 : r = [] := by
          have := HLr.out.1
          exact List.eq_nil_of_length_eq_zero (by omega)
        rw [hr0]
        exact ⟨⟨HRn.out, some a, 0, rd_row HB2.out, Nat.le_refl _, by decide, .inr ⟨a, 0, rfl, fun j hj => by cases hj⟩⟩, (OnlyR.fromB HB1.out).trans (OnlyR.set R w1 _)⟩)
      have hln : l.length = N := by omega
      go_wp2_with fail
      go_ret
      obtain ⟨h1, h2⟩ := HE.out _ rfl
      exact ⟨.inl ⟨x, r, _, HO.out, rfl, rfl, h1⟩, h2⟩
    · have HE : Hid (∀ W, W = w1.setCell ⟨R, 0, none⟩ (.slice (some (a.add N)) (l.length - N) (cap - N)) → RdB n₀ W R r ∧ OnlyR R w W) := Lib.hid (by
        rintro W rfl
        have e1 : l.length - N = r.length := by have := HLr.out.1; omega
        refine ⟨⟨HRn.out, some (a.add N), cap - N, ?_, by omega, by unfold maxLen; omega, ?_⟩, (OnlyR.fromB HB1.out).trans (OnlyR.set R w1 _)⟩
        · rw [← e1]; exact rd_row HB2.out
        · have h1 := (HI1.out.drop N (by omega)).set (j := 0) HRn.out (.slice (some (a.add N)) (l.length - N) (cap - N))
          rw [HLr.out.2] at h1
          rw [← e1]
          exact h1)
      go_wp2_with fail
      go_ret
      obtain ⟨h1, h2⟩ := HE.out _ rfl
      exact ⟨.inl ⟨x, r, _, HO.out, rfl, rfl, h1⟩, h2⟩
  · have HO := Lib.hid ho
    have HB1 := Lib.hid hb1
    clear hb1 ho
    go_wp2_with fail
    refine (intact_bad _).mono ?_
    rintro e w2 ⟨rfl, rfl⟩
    go_wp2_with fail
    exact ⟨rfl, .inr ⟨HO.out, rfl⟩, OnlyR.fromB HB1.out⟩
theorem textM_all {m : Int} {l x r : List UInt8} (h : textM m l = some (x, r)) : l = textL x ++ r := by
  rcases Int.lt_or_le m 0 with h0 | h0
  · rw [textM_neg h0] at h; cases h
  · rw [textM_of h0] at h
    exact (textQ_is h).1
set_option maxRecDepth 100000 in
theorem key1_any (v : Value) (l : List UInt8) (w : World) (h : ArgB w v l) : Calls Tryz.prog 173 #[v] w (TakenXEnd l (textM (l.length : Int) l) w) := by
  obtain ⟨-, p, cap, rfl, hc, hm⟩ := id h
  unfold maxLen at hm
  have HT := Lib.hid (takeText_any (.slice p l.length cap) l (l.length : Int) w h (by omega))
  clear h
  go_enter Tryz.func173, Tryz.ntmps173
  go_wp2_with fail
  refine HT.out.mono ?_
  rintro e w1 ⟨hb, ⟨x, r, u, ho, rfl, hu⟩ | ⟨ho, rfl⟩⟩
  · have HB := Lib.hid hb
    have HO := Lib.hid ho
    have HU := Lib.hid hu
    clear hb ho hu HT
    go_wp2_with fail
    go_ret3
    exact ⟨HB.out, .inl ⟨x, r, u, HO.out, rfl, HU.out⟩⟩
  · have HB := Lib.hid hb
    have HO := Lib.hid ho
    clear hb ho HT
    go_wp2_with fail
    go_ret3
    exact ⟨HB.out, .inr ⟨HO.out, rfl⟩⟩
set_option maxRecDepth 100000 in
set_option maxHeartbeats 4000000 in
theorem takeX_any (n₀ R : Nat) (l : List UInt8) (w : World) (h : RdB n₀ w R l) :
    Calls Tryz.prog 172 #[.pointer (some ⟨R, 0, none⟩), .func (.func 173) #[] #[]] w (TkEnd n₀ R (textM (l.length : Int) l) (fun x W v => OwnB w.heap.size W v x) w) := by
  have HR := Lib.hid h
  obtain ⟨hR, p, cap, hb, hc, hm, hi⟩ := h
  have c0 : w.cell? ⟨R, 0, none⟩ = some (.slice p l.length cap) := cell_of_row w R 0 _ _ (0, 0) hb
  have HI := Lib.hid hi
  have HB := Lib.hid hb
  have hm2 : cap ≤ 9223372036854775807 := hm
  have HRn := Lib.hid hR
  have HLt := Lib.hid HR.out.lt
  have HC := Lib.hid (key1_any (.slice p l.length cap) l w ⟨hi.mono (Nat.le_trans hR (Nat.le_of_lt HR.out.lt)), p, cap, rfl, hc, hm⟩)
  clear hb hi hm hR
  go_enter Tryz.func172, Tryz.ntmps172
  go_wp2_with fail
  refine HC.out.mono ?_
  rintro e w1 ⟨hb1, ⟨x, r, v, ho, rfl, hv⟩ | ⟨ho, rfl⟩⟩
  · have hl := textM_all ho
    obtain ⟨N, hN⟩ : ∃ N, N = l.length - r.length := ⟨_, rfl⟩
    have hlr : l.length = N + r.length := by rw [hN]; have := congrArg List.length hl; rw [List.length_append] at this; omega
    have hN0 : 0 < N := by
      have := congrArg List.length hl
      rw [List.length_append] at this
      have h0 : 0 < (textL x).length := (by unfold textL; rw [List.length_append]; have := numL_pos x.length; omega)
      omega
    have hdr : l.drop N = r := by
      have : N = (textL x).length := by have := congrArg List.length hl; rw [List.length_append] at this; omega
      rw [this, hl, List.drop_left]
    rcases p with _ | a
    · exfalso
      rcases HI.out with ⟨-, rfl⟩ | ⟨a', c', e, -⟩
      · simp at hlr; omega
      · simp at e
    have hNi : (l.length : Int) - (r.length : Int) = (N : Int) := by omega
    rw [hNi]
    have HO := Lib.hid ho
    have HB1 := Lib.hid hb1
    have HB2 := Lib.hid ((hb1.block R HLt.out).trans HB.out)
    have HI1 := Lib.hid (HI.out.below (hb1.mono (Nat.le_trans HRn.out (Nat.le_of_lt HLt.out))))
    have c1 := (cell_at HB2.out).1
    have f1 := (cell_at HB2.out).2
    have HLr := Lib.hid (And.intro hlr hdr)
    have hi1 : (N : Int) ≤ (l.length : Int) := by omega
    have hi2 : (cap : Int) ≤ 9223372036854775807 := by omega
    have hi3 : (l.length : Int) ≤ (cap : Int) := by omega
    have hi4 : (0 : Int) ≤ (N : Int) := by omega
    have hi5 : (N : Int) ≤ (cap : Int) := by omega
    have HV := Lib.hid hv
    obtain ⟨pv, cv, rfl⟩ := hv.in_.shape
    obtain ⟨nv, hnv⟩ : ∃ n, n = x.length := ⟨_, rfl⟩
    rw [← hnv] at HV ⊢
    clear hv hnv
    clear hb1 ho hl hN hlr hdr hNi c0 hN0
    go_wp2_with fail
    refine (intact_ok _).mono ?_
    rintro e w2 ⟨⟨u, rfl⟩, rfl⟩
    by_cases hcn : cap = N
    · have HE : Hid (∀ W, W = w1.setCell ⟨R, 0, none⟩ (.slice (some a) 0 0) → RdB n₀ W R r ∧ OnlyR R w W) := Lib.hid (by
        rintro W rfl
        have hr0 : r = [] := by
          have := HLr.out.1
          exact List.eq_nil_of_length_eq_zero (by omega)
        rw [hr0]
        exact ⟨⟨HRn.out, some a, 0, rd_row HB2.out, Nat.le_refl _, by decide, .inr ⟨a, 0, rfl, fun j hj => by cases hj⟩⟩, (OnlyR.fromB HB1.out).trans (OnlyR.set R w1 _)⟩)
      have hln : l.length = N := by omega
      go_wp2_with fail
      go_ret
      obtain ⟨h1, h2⟩ := HE.out _ rfl
      exact ⟨.inl ⟨x, r, _, HO.out, rfl, HV.out.set (a := ⟨R, 0, none⟩) HLt.out _, h1⟩, h2⟩
    · have HE : Hid (∀ W, W = w1.setCell ⟨R, 0, none⟩ (.slice (some (a.add N)) (l.length - N) (cap - N)) → RdB n₀ W R r ∧ OnlyR R w W) := Lib.hid (by
        rintro W rfl
        have e1 : l.length - N = r.length := by have := HLr.out.1; omega
        refine ⟨⟨HRn.out, some (a.add N), cap - N, ?_, by omega, by unfold maxLen; omega, ?_⟩, (OnlyR.fromB HB1.out).trans (OnlyR.set R w1 _)⟩
        · rw [← e1]; exact rd_row HB2.out
        · have h1 := (HI1.out.drop N (by omega)).set (j := 0) HRn.out (.slice (some (a.add N)) (l.length - N) (cap - N))
          rw [HLr.out.2] at h1
          rw [← e1]
          exact h1)
      go_wp2_with fail
      go_ret
      obtain ⟨h1, h2⟩ := HE.out _ rfl
      exact ⟨.inl ⟨x, r, _, HO.out, rfl, HV.out.set (a := ⟨R, 0, none⟩) HLt.out _, h1⟩, h2⟩
  · have HO := Lib.hid ho
    have HB1 := Lib.hid hb1
    clear hb1 ho
    go_wp2_with fail
    refine (intact_bad _).mono ?_
    rintro e w2 ⟨rfl, rfl⟩
    go_wp2_with fail
    exact ⟨rfl, .inr ⟨HO.out, rfl⟩, OnlyR.fromB HB1.out⟩
end
section
open Go Go.RowKit

theorem RdB.other {n₀ : Nat} {w w' : World} {R b : Nat} {l : List UInt8} (h : RdB n₀ w R l) (ht : Turned (fun k => k = b) w w') (hb : b ≠ R) (hn : n₀ ≤ b) : RdB n₀ w' R l := by
  have hlt := h.lt
  obtain ⟨hR, p, cap, h1, h2, h3, h4⟩ := h
  refine ⟨hR, p, cap, (ht.block R hlt (fun e => hb e.symm)).trans h1, h2, h3, ?_⟩
  rcases h4 with h4 | ⟨a, c, e, h4⟩
  · exact .inl h4
  · exact .inr ⟨a, c, e, fun j hj => ⟨(h4 j hj).1, (World.cell?_of_block (a := a.add j) (by
      rw [add_block]
      exact ht.block a.block (by have := (h4 j hj).1; omega) (fun e => by have := (h4 j hj).1; have e : a.block = b := e; omega))).trans (h4 j hj).2⟩⟩
theorem row2_kept {W : World} {R b : Nat} {x y u : Value} {t : TypeId} (h : W.heap[b]? = some (.cells #[x, y] t (0, 0))) (hne : b ≠ R) :
    ((W.setCell ⟨R, 0, none⟩ u).cell? ⟨b, 0, none⟩ = some x ∧ (W.setCell ⟨R, 0, none⟩ u).cell? ⟨b, 1, none⟩ = some y) ∧ (W.setCell ⟨R, 0, none⟩ u).frozen? ⟨b, 0, none⟩ = false ∧ (W.setCell ⟨R, 0, none⟩ u).frozen? ⟨b, 1, none⟩ = false := by
  have h' : (W.setCell ⟨R, 0, none⟩ u).heap[b]? = some (.cells #[x, y] t (0, 0)) := ((turned_setCell W R u).block _ (Array.getElem?_eq_some_iff.1 h).1 hne).trans h
  exact ⟨⟨(cell_of_row _ b 0 _ _ (0, 0) h').trans rfl, (cell_of_row _ b 1 _ _ (0, 0) h').trans rfl⟩, frozen_of_row _ b 0 _ _ h', frozen_of_row _ b 1 _ _ h'⟩
theorem turned_set2 (W : World) (b : Nat) (x y : Value) : Turned (fun k => k = b) W ((W.setCell ⟨b, 0, none⟩ x).setCell ⟨b, 1, none⟩ y) := by
  have h1 := turned_setCell W b x
  have h2 : Turned (fun k => k = b) (W.setCell ⟨b, 0, none⟩ x) ((W.setCell ⟨b, 0, none⟩ x).setCell ⟨b, 1, none⟩ y) := ⟨rfl, rfl, rfl, by simp, fun k _ hk => heap_setCell_other _ ⟨b, 1, none⟩ k y hk⟩
  exact h1.trans h2 (fun k _ e => e)
set_option maxRecDepth 100000 in
set_option maxHeartbeats 4000000 in
theorem takeC_any (n₀ R : Nat) (l : List UInt8) (w : World) (h : RdB n₀ w R l) :
    Calls Tryz.prog 152 #[.pointer (some ⟨R, 0, none⟩), .func (.func 153) #[] #[]] w (TkEnd n₀ R (cntQ l) (fun x W v => CntV w.heap.size x W v) w) := by
  have HLt := Lib.hid h.lt
  obtain ⟨W0, hW0⟩ : ∃ W0, W0 = w.alloc (.cells #[.slice none 0 0, .int .i64 0] 66) := ⟨_, rfl⟩
  have hb0 : Below w.heap.size w W0 := by rw [hW0]; exact below_new w _
  have hs0 : W0.heap.size = w.heap.size + 1 := by rw [hW0]; simp
  have hr0 : W0.heap[w.heap.size]? = some (.cells #[.slice none 0 0, .int .i64 0] 66 (0, 0)) := by rw [hW0]; exact World.alloc_heap_new w _
  have h0 := h.below hb0
  obtain ⟨hR, p, cap, hb, hc, hm, hi⟩ := h0
  have HA := Lib.hid (takeCounted_any (.slice p l.length cap) l W0 ⟨hi.mono (by have := HLt.out; omega), p, cap, rfl, hc, hm⟩)
  have c0 : (w.alloc (.cells #[.slice none 0 0, .int .i64 0] 66)).cell? ⟨R, 0, none⟩ = some (.slice p l.length cap) := by rw [← hW0]; exact (cell_at hb).1
  have HI := Lib.hid hi
  have HB := Lib.hid hb
  have hm2 : cap ≤ 9223372036854775807 := hm
  have HRn := Lib.hid hR
  have HR0 := Lib.hid hr0
  have HB0 := Lib.hid hb0
  have HS0 := Lib.hid hs0
  clear hb hi hm hR hr0 hb0 hs0 h
  go_enter Tryz.func152, Tryz.ntmps152
  go_wp2_with fail
  rw [← hW0]
  refine HA.out.mono ?_
  rintro e w1 ⟨hb1, ⟨⟨T, n⟩, r, v, ho, rfl, hv⟩ | ⟨ho, rfl⟩⟩
  · have hl := (cntQ_is ho).1
    obtain ⟨N, hN⟩ : ∃ N, N = l.length - r.length := ⟨_, rfl⟩
    have hlr : l.length = N + r.length := by rw [hN]; have := congrArg List.length hl; rw [List.length_append] at this; omega
    have hN0 : 0 < N := by
      have h1 := congrArg List.length hl
      rw [List.length_append, List.length_append] at h1
      have h0 : 0 < (tupL T).length := by unfold tupL; simp
      omega
    have hdr : l.drop N = r := by
      have : N = (tupL T ++ intL n).length := by have := congrArg List.length hl; rw [List.length_append] at this; omega
      rw [this, hl, List.drop_left]
    rcases p with _ | a
    · exfalso
      rcases HI.out with ⟨-, rfl⟩ | ⟨a', c', e, -⟩
      · simp at hlr; omega
      · simp at e
    have hNi : (l.length : Int) - (r.length : Int) = (N : Int) := by omega
    rw [hNi]
    obtain ⟨g, hg, rfl, hrow, h8⟩ := hv
    have HO := Lib.hid ho
    have HLr := Lib.hid (And.intro hlr hdr)
    have HV := Lib.hid (And.intro hg (And.intro hrow h8))
    have HB1 := Lib.hid hb1
    have hsz := hb1.size
    obtain ⟨tl, htl⟩ : ∃ tl, tl = T.length := ⟨_, rfl⟩
    simp only [← htl]
    have HTl := Lib.hid htl
    have hi1 : (N : Int) ≤ (l.length : Int) := by omega
    have hi2 : (cap : Int) ≤ 9223372036854775807 := by omega
    have hi3 : (l.length : Int) ≤ (cap : Int) := by omega
    have hi4 : (0 : Int) ≤ (N : Int) := by omega
    have hi5 : (N : Int) ≤ (cap : Int) := by omega
    obtain ⟨W1, hW1⟩ : ∃ W1, W1 = w1.alloc (.cells #[.slice (some ⟨g, 0, none⟩) tl tl, .int .i64 n] 66) := ⟨_, rfl⟩
    have hbW : Below w1.heap.size w1 W1 := by rw [hW1]; exact below_new w1 _
    have hq : W1.heap[w1.heap.size]? = some (.cells #[.slice (some ⟨g, 0, none⟩) tl tl, .int .i64 n] 66 (0, 0)) := by rw [hW1]; exact World.alloc_heap_new w1 _
    have hR1 := (hbW.block R (by have := HLt.out; have := HS0.out; omega)).trans ((hb1.block R (by have := HLt.out; have := HS0.out; omega)).trans HB.out)
    have hr1 := (hbW.block w.heap.size (by have := HS0.out; omega)).trans ((hb1.block w.heap.size (by have := HS0.out; omega)).trans HR0.out)
    have HQ := Lib.hid hq
    have HBw1 := Lib.hid hbW
    have HR1 := Lib.hid hR1
    have HRes := Lib.hid hr1
    have HBW := Lib.hid (hb1.trans (hbW.mono hsz))
    have HSz := Lib.hid hsz
    have HI1 := Lib.hid (HI.out.below ((hb1.trans (hbW.mono hsz)).mono (by have := HRn.out; have := HLt.out; have := HS0.out; omega)))
    have c1 := (cell_at hR1).1
    have f1 := (cell_at hR1).2
    clear hb1 ho hl hN hlr hdr hNi c0 hN0 hg hrow h8 hsz htl hbW hq hR1 hr1 HA
    go_wp2_with fail
    rw [← hW1]
    clear hW1
    refine (intact_ok _).mono ?_
    rintro e w2 ⟨⟨u, rfl⟩, rfl⟩
    have HFin : Hid (∀ u, RdB n₀ (W1.setCell ⟨R, 0, none⟩ u) R r → TkEnd n₀ R (cntQ l) (fun x W v => CntV w.heap.size x W v) w (.returned (.agg #[.slice (some ⟨g, 0, none⟩) tl tl, .int .i64 n])) (((W1.setCell ⟨R, 0, none⟩ u).setCell ⟨w.heap.size, 0, none⟩ (.slice (some ⟨g, 0, none⟩) tl tl)).setCell ⟨w.heap.size, 1, none⟩ (.int .i64 n))) := Lib.hid (by
      intro u hrd
      have hlt := HLt.out
      have hs0 := HS0.out
      have ht := turned_set2 (W1.setCell ⟨R, 0, none⟩ u) w.heap.size (.slice (some ⟨g, 0, none⟩) tl tl) (.int .i64 n)
      have hrn := HRn.out
      refine ⟨.inl ⟨(T, n), r, _, HO.out, rfl, ⟨g, ?_, ?_, ?_, HV.out.2.2⟩, hrd.other ht (by omega) (by omega)⟩, ?_⟩
      · have := HV.out.1; omega
      · simp only [← HTl.out]
      · have hg := HV.out.1
        have hsz := HSz.out
        have h1 : RowN W1 g T.length T := by
          obtain ⟨A, h1, h2⟩ := HV.out.2.1
          exact ⟨A, (HBw1.out.block g (Array.getElem?_eq_some_iff.1 h1).1).trans h1, h2⟩
        exact ((h1.set R 0 u (by omega)).set _ _ _ (by omega)).set _ _ _ (by omega)
      · have t0 : Turned (fun k => k = R) w W1 := OnlyR.fromB (HB0.out.trans (HBW.out.mono (by omega)))
        exact (t0.trans (turned_setCell W1 R u) (fun k _ e => e)).trans ht (fun k hk e => by have e : k = w.heap.size := e; omega))
    by_cases hcn : cap = N
    · have HRd := Lib.hid (show RdB n₀ (W1.setCell ⟨R, 0, none⟩ (.slice (some a) 0 0)) R r by
        have hr0 : r = [] := by
          have := HLr.out.1
          exact List.eq_nil_of_length_eq_zero (by omega)
        rw [hr0]
        exact ⟨HRn.out, some a, 0, rd_row HR1.out, Nat.le_refl _, by decide, .inr ⟨a, 0, rfl, fun j hj => by cases hj⟩⟩)
      have hln : l.length = N := by omega
      obtain ⟨⟨q0, q1⟩, -, -⟩ := row2_kept (R := R) (u := .slice (some a) 0 0) HQ.out (by have := HLt.out; have := HS0.out; have := HSz.out; omega)
      obtain ⟨⟨r0, r1⟩, g0, g1⟩ := row2_kept (R := R) (u := .slice (some a) 0 0) HRes.out (by have := HLt.out; omega)
      go_wp2_with fail
      exact bodyPost_ret (v := .agg #[.slice (some ⟨g, 0, none⟩) tl tl, .int .i64 n]) (by simp [results, Tryz.results152, go_sem, r0, r1]) rfl (HFin.out _ HRd.out)
    · have e1 : l.length - N = r.length := by have := HLr.out.1; omega
      have HRd := Lib.hid (show RdB n₀ (W1.setCell ⟨R, 0, none⟩ (.slice (some (a.add N)) (l.length - N) (cap - N))) R r by
        refine ⟨HRn.out, some (a.add N), cap - N, ?_, by omega, by unfold maxLen; omega, ?_⟩
        · rw [← e1]; exact rd_row HR1.out
        · have h1 := (HI1.out.drop N (by omega)).set (j := 0) HRn.out (.slice (some (a.add N)) (l.length - N) (cap - N))
          rw [HLr.out.2] at h1
          rw [← e1]
          exact h1)
      clear e1
      obtain ⟨⟨q0, q1⟩, -, -⟩ := row2_kept (R := R) (u := .slice (some (a.add N)) (l.length - N) (cap - N)) HQ.out (by have := HLt.out; have := HS0.out; have := HSz.out; omega)
      obtain ⟨⟨r0, r1⟩, g0, g1⟩ := row2_kept (R := R) (u := .slice (some (a.add N)) (l.length - N) (cap - N)) HRes.out (by have := HLt.out; omega)
      go_wp2_with fail
      exact bodyPost_ret (v := .agg #[.slice (some ⟨g, 0, none⟩) tl tl, .int .i64 n]) (by simp [results, Tryz.results152, go_sem, r0, r1]) rfl (HFin.out _ HRd.out)
  · have HO := Lib.hid ho
    have HB1 := Lib.hid (HB0.out.trans (hb1.mono (by have := HS0.out; omega)))
    have hs1 := hb1.size
    clear hb1 ho c0 HA
    go_wp2_with fail
    refine (intact_bad _).mono ?_
    rintro e w2 ⟨rfl, rfl⟩
    go_wp2_with fail
    exact ⟨rfl, .inr ⟨HO.out, rfl⟩, OnlyR.fromB (HB1.out.trans ((below_new w1 _).mono HB1.out.size))⟩
end
end Go.Proofs.YtdjhfcopnhcljaaGreatDoor
