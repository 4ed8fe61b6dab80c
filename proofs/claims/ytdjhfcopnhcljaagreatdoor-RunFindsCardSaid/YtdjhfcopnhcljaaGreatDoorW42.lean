/-
  A disk with one file; the closure of run.Write on a new disk.
  Contract of run.Write on a new disk.
  Contracts of run.answered, at what answers a run and at what answers entries.
-/
import Derived.Test.YtdjhfcopnhcljaaGreatDoorW27
import Derived.Test.YtdjhfcopnhcljaaGreatDoorW10
import Derived.Test.YtdjhfcopnhcljaaGreatDoorW40
import Derived.Test.YtdjhfcopnhcljaaGreatDoorW41
import Derived.Test.YtdjhfcopnhcljaaGreatDoorW23
namespace Go.Proofs.YtdjhfcopnhcljaaGreatDoor
section
open Go Go.RowKit Go.Maps Go.WideMaps

theorem newDk_R {w w1 : World} {room : Int} (h : NewDk w w1 room) : DkS w.heap.size w1 (w.heap.size + 4) w.heap.size (w.heap.size + 1) (w.heap.size + 2) (w.heap.size + 3) room 0 0 0 0 0 0 (.map []) (.map []) (.map []) (.map []) (.slice none 0 0) [] :=
  ⟨h.disk, h.files, h.olds, h.dir, h.fixed, World.ownsRow_nil _ _ _ _, by omega, fun k hk => (by cases hk), by omega⟩
theorem ownF_of {n : Nat} {w : World} {v : Value} {l : List UInt8} (h : OwnB n w v l) : OwnF n w v l := h
theorem ownB_of {n : Nat} {w : World} {v : Value} {l : List UInt8} (h : OwnF n w v l) : OwnB n w v l := h
theorem Grow.fromB {w w' : World} (h : Below w.heap.size w w') : Grow (fun _ => False) w w' := ⟨h.os, h.tape, h.output, h.size, fun k hk _ => h.block k hk⟩
/-- The blocks of a disk with one file. -/
def DkY (d F O D X g : Nat) (chg fv : Value) (k : Nat) : Prop := k = d ∨ k = F ∨ k = O ∨ k = D ∨ k = X ∨ k = g ∨ chg.ownBlock = some k ∨ fv.ownBlock = some k
/-- A disk at d that holds one file s, with bytes L, in blocks Y. -/
def FlAt (w : World) (d : Nat) (s : ByteArray) (L : List UInt8) (Y : Nat → Prop) : Prop :=
  ∃ n0 nF F O D X g room next nf no nd nx m fixed oo xx chg fv wrn xs, DkS n0 w d F O D X room next nf no nd nx m (oneM (.int .i64 0) (.pointer (some ⟨g, 0, none⟩))) oo (oneM (.string s.data.toList) (.int .i64 0)) xx chg xs ∧ FileAt w g fv fixed wrn ∧ OwnF nF w fv L ∧ (∀ k, DkY d F O D X g chg fv k → Y k)
theorem FlAt.grow {S Y : Nat → Prop} {w w' : World} {d : Nat} {s : ByteArray} {L : List UInt8} (h : FlAt w d s L Y) (hg : Grow S w w') (hS : ∀ k, S k → ¬ Y k) : FlAt w' d s L Y := by
  obtain ⟨n0, nF, F, O, D, X, g, room, next, nf, no, nd, nx, m, fixed, oo, xx, chg, fv, wrn, xs, h1, h2, h3, h4⟩ := h
  have no' : ∀ k, DkY d F O D X g chg fv k → ¬ S k := fun k e e' => hS k e' (h4 k e)
  exact ⟨n0, nF, F, O, D, X, g, room, next, nf, no, nd, nx, m, fixed, oo, xx, chg, fv, wrn, xs, h1.grow hg (no' _ (.inl rfl)) (no' _ (.inr (.inl rfl))) (no' _ (.inr (.inr (.inl rfl)))) (no' _ (.inr (.inr (.inr (.inl rfl))))) (no' _ (.inr (.inr (.inr (.inr (.inl rfl)))))) (fun k e => no' k (.inr (.inr (.inr (.inr (.inr (.inr (.inl e)))))))),
    h2.grow hg (no' _ (.inr (.inr (.inr (.inr (.inr (.inl rfl))))))), h3.grow hg (fun k e => no' k (.inr (.inr (.inr (.inr (.inr (.inr (.inr e)))))))), h4⟩
theorem FlAt.below {Y : Nat → Prop} {w w' : World} {d : Nat} {s : ByteArray} {L : List UInt8} (h : FlAt w d s L Y) (hb : Below w.heap.size w w') : FlAt w' d s L Y := h.grow (Grow.fromB hb) (fun _ e => e.elim)
theorem FlAt.made {Y : Nat → Prop} {w : World} {d : Nat} {s : ByteArray} {L : List UInt8} (h : FlAt w d s L Y) : d < w.heap.size ∧ Y d := by
  obtain ⟨n0, nF, F, O, D, X, g, room, next, nf, no, nd, nx, m, fixed, oo, xx, chg, fv, wrn, xs, h1, h2, h3, h4⟩ := h
  exact ⟨h1.on.lt, h4 d (.inl rfl)⟩
theorem flsize_any {Y : Nat → Prop} {w : World} {d : Nat} {s : ByteArray} {L : List UInt8} (h : FlAt w d s L Y) (hs : s.size ≤ 64) :
    Calls Tryz.prog 77 #[.pointer (some ⟨d, 0, none⟩), .string s] w fun e w' => e = .returned (.tuple #[.int .i64 (L.length : Int), .int .i64 0]) ∧ Grow (fun _ => False) w w' := by
  obtain ⟨n0, nF, F, O, D, X, g, room, next, nf, no, nd, nx, m, fixed, oo, xx, chg, fv, wrn, xs, h1, h2, h3, h4⟩ := h
  exact size_any h1 hs h2 h3
theorem flread_any {Y : Nat → Prop} {w : World} {d : Nat} {s : ByteArray} {L : List UInt8} (h : FlAt w d s L Y) (hs : s.size ≤ 64) (hL : L.length ≤ 500000) :
    Calls Tryz.prog 78 #[.pointer (some ⟨d, 0, none⟩), .string s, .int .i64 0, .int .i64 (L.length : Int)] w fun e w' => ∃ v, e = .returned (.tuple #[v, .int .i64 0]) ∧ OwnF w.heap.size w' v L ∧ Grow (fun _ => False) w w' := by
  obtain ⟨n0, nF, F, O, D, X, g, room, next, nf, no, nd, nx, m, fixed, oo, xx, chg, fv, wrn, xs, h1, h2, h3, h4⟩ := h
  exact read_full h1 hs h2 h3 hL
/-- A block of other cells is not the row of changes. -/
theorem chg_far {n0 m k : Nat} {w : World} {chg v : Value} {xs : List Value} {t : TypeId} (h : w.ownsRow n0 138 3 chg m xs) (hf : w.heap[k]? = some (.cells #[v] t (0, 0))) (ht : t ≠ 138) : chg.ownBlock ≠ some k := by
  intro e
  obtain ⟨-, cur, hc⟩ := own_blockD h k e
  rw [hf] at hc
  injection hc with hc
  injection hc with _ hc _
  exact ht hc
theorem chg_file {n0 m g : Nat} {w : World} {chg a b c : Value} {xs : List Value} (h : w.ownsRow n0 138 3 chg m xs) (hf : w.heap[g]? = some (.cells #[a, b, c] 135 (0, 0))) : chg.ownBlock ≠ some g := by
  intro e
  obtain ⟨-, cur, hc⟩ := own_blockD h g e
  rw [hf] at hc
  injection hc with hc
  injection hc with _ hc _
  exact absurd hc (by decide)
theorem runL_pos {E : List Ct} {L : List UInt8} (h : runL E = L) : 0 < L.length := by
  have h1 : 0 < (tailL E).length := by unfold tailL; rw [sealL_len]; omega
  rw [← h]
  unfold runL
  rw [List.length_append]
  omega
theorem put_none (B : List UInt8) : put_ [] B 0 = B := by simp [put_]
/-- Behind the closure: a disk with the run's file; the boxes and the error's variable are untouched. -/
def WroteAt (n0 n1 Eb d : Nat) (s : ByteArray) (L : List UInt8) (w w' : World) : Prop := ∃ Y, FlAt w' d s L Y ∧ (∀ k, Y k → n0 ≤ k ∧ k ≠ Eb ∧ k < w'.heap.size) ∧ Below n0 w w' ∧ n1 ≤ w'.heap.size
set_option maxRecDepth 100000 in
set_option maxHeartbeats 4000000 in
theorem write1_any {n0 n1 bl bd bs Eb : Nat} {w : World} {room : Int} (v : Value) (E : List Ct) (s : ByteArray)
    (h : DkS n0 w (n0 + 4) n0 (n0 + 1) (n0 + 2) (n0 + 3) room 0 0 0 0 0 0 (.map []) (.map []) (.map []) (.map []) (.slice none 0 0) []) (hn1 : n1 = n0 + 5) (hroom : ((runL E).length : Int) / 64 + 1 ≤ room)
    (hbl : w.heap[bl]? = some (.cells #[v] 22 (0, 0)) ∧ n1 ≤ bl) (hbd : w.heap[bd]? = some (.cells #[.pointer (some ⟨n0 + 4, 0, none⟩)] 43 (0, 0)) ∧ n1 ≤ bd) (hbs : w.heap[bs]? = some (.cells #[.string s] 9 (0, 0)) ∧ n1 ≤ bs)
    (hEb : w.heap[Eb]? = some (.cells #[.int .i64 0] 25 (0, 0)) ∧ n1 ≤ Eb) (hv : EnIn w.heap.size w v E) (hE : E.length ≤ 1000) (hK : Kin E) (hR : IsRun E) (hL : (runL E).length ≤ 500000) (hs : 1 ≤ s.size ∧ s.size ≤ 64) (G : Glob w) (Rx : Int → World → Prop) :
    Calls Tryz.prog 67 #[.pointer (some ⟨bl, 0, none⟩), .pointer (some ⟨bd, 0, none⟩), .pointer (some ⟨bs, 0, none⟩)] w (DoEnd Eb (WroteAt n0 n1 Eb (n0 + 4) s (runL E) w) Rx) := by
  have HS := Lib.hid h
  have HBl := Lib.hid hbl
  have HBd := Lib.hid hbd
  have HBs := Lib.hid hbs
  have HEb := Lib.hid hEb
  have HLn := Lib.hid (And.intro hL hs)
  have HN := Lib.hid hn1
  have HBy := Lib.hid (runBytes_any v E w hv hE hK G)
  have HR := Lib.hid hR
  have c0 := (cell_at hbl.1).1
  have lt : ∀ {k : Nat} {o : Obj}, w.heap[k]? = some o → k < w.heap.size := fun h => (Array.getElem?_eq_some_iff.1 h).1
  have HLt := Lib.hid (show bl < w.heap.size ∧ bd < w.heap.size ∧ bs < w.heap.size ∧ Eb < w.heap.size from ⟨lt hbl.1, lt hbd.1, lt hbs.1, lt hEb.1⟩)
  obtain ⟨pv, cv, rfl, -⟩ := hv
  clear h hbl hbd hbs hEb hL hs hn1 hR G lt
  go_enter Tryz.func67, Tryz.ntmps67
  go_wp2_with fail
  refine HBy.out.mono ?_
  rintro e w1 ⟨⟨-, v1, rfl, ho1⟩ | ⟨hno, -⟩, hb1⟩
  · obtain ⟨L, hL⟩ : ∃ L, L = runL E := ⟨_, rfl⟩
    have HRl := Lib.hid hL.symm
    rw [← hL] at ho1 HLn hroom ⊢
    obtain ⟨q1, d1, rfl⟩ := ho1.in_.shape
    have HO1 := Lib.hid ho1
    have HB1 := Lib.hid hb1
    have HS1 := Lib.hid (HS.out.same (Grow.fromB hb1))
    have HD1 := Lib.hid ((hb1.block _ HLt.out.2.1).trans HBd.out.1)
    have HN1 := Lib.hid ((hb1.block _ HLt.out.2.2.1).trans HBs.out.1)
    have HE1 := Lib.hid ((hb1.block _ HLt.out.2.2.2).trans HEb.out.1)
    have c1 := (cell_at HD1.out).1
    have c2 := (cell_at HN1.out).1
    clear ho1 hb1 hL c0
    go_wp2_with fail
    refine (gotB_ok _ _).mono ?_
    rintro e w2 ⟨rfl, rfl⟩
    go_wp2_with fail
    refine (create_any s HS1.out HLn.out.2 (by decide) (by omega) (by omega) rfl rfl (by decide)).mono ?_
    rintro e w2 ⟨rfl, chg, hS2, hF2, hg2⟩
    obtain ⟨g, HGe⟩ : ∃ g, Hid (g = w1.heap.size) := ⟨_, Lib.hid rfl⟩
    rw [← HGe.out] at hS2 hF2
    have hS2' : DkS n0 w2 (n0 + 4) n0 (n0 + 1) (n0 + 2) (n0 + 3) room 1 1 0 1 0 1 (oneM (.int .i64 0) (.pointer (some ⟨g, 0, none⟩))) (.map []) (oneM (.string s.data.toList) (.int .i64 0)) (.map []) chg [.string ⟨#[]⟩, .string s, .int .i64 0] := hS2
    have hF2' : FileAt w2 g (.slice none 0 0) 0 (.slice none 0 0) := hF2
    have HC2 := Lib.hid (chg_file hS2'.own hF2')
    have HSz := Lib.hid (And.intro HB1.out.size (And.intro hg2.size (show g < w2.heap.size from (Array.getElem?_eq_some_iff.1 hF2').1)))
    have far : ∀ k, n1 ≤ k → ¬ CrS (n0 + 4) n0 (n0 + 2) (.slice none 0 0) k := by
      rintro k hk (e | e | e | e)
      · have := HN.out; omega
      · have := HN.out; omega
      · have := HN.out; omega
      · cases e
    have HD2 := Lib.hid ((hg2.block _ (Array.getElem?_eq_some_iff.1 HD1.out).1 (far _ HBd.out.2)).trans HD1.out)
    have HN2 := Lib.hid ((hg2.block _ (Array.getElem?_eq_some_iff.1 HN1.out).1 (far _ HBs.out.2)).trans HN1.out)
    have HE2 := Lib.hid ((hg2.block _ (Array.getElem?_eq_some_iff.1 HE1.out).1 (far _ HEb.out.2)).trans HE1.out)
    have hn1w : n1 ≤ w.heap.size := by have h1 := HBl.out.2; have h2 := HLt.out.1; omega
    have HO2 := Lib.hid ((ownF_of HO1.out).grow hg2 (fun k hk => far k (Nat.le_trans hn1w (World.ownsRow.lt HO1.out k hk).1)))
    have HOl := Lib.hid (fun k (hk : (Value.slice q1 L.length d1).ownBlock = some k) => World.ownsRow.lt HO1.out k hk)
    have HB2 := Lib.hid ((HB1.out.mono (show n0 ≤ w.heap.size by have := HN.out; omega)).trans (hg2.below (show n0 ≤ w1.heap.size by have := HN.out; have := HB1.out.size; omega) (fun k e => by rcases e with e | e | e | e; omega; omega; omega; cases e)))
    have HS2 := Lib.hid hS2'
    have HF2 := Lib.hid hF2'
    have c3 := (cell_at HD2.out).1
    have c4 := (cell_at HN2.out).1
    have HG := Lib.hid (show g = w1.heap.size ∧ n1 ≤ w.heap.size from ⟨HGe.out, hn1w⟩)
    clear hS2 hF2 hS2' hF2' hg2 far hn1w c1 c2 HS1 HD1 HN1 HE1 HO1
    go_wp2_with fail
    refine (need_ok _).mono ?_
    rintro e w3 ⟨⟨u, rfl⟩, rfl⟩
    have hLp : 0 < L.length := runL_pos HRl.out
    have HW := Lib.hid (write_grow (s := s) (nF := w2.heap.size) (nB := w2.heap.size) (bv := .slice q1 L.length d1) (B := L) HS2.out HLn.out.2.2 (Olds.empty w2 0) HF2.out (OwnF.nil w2.heap.size w2) (by simp) (by have := HG.out; have := HN.out; have := HSz.out; have := HC2.out; refine ⟨by omega, by omega, by omega, by omega, by omega, this⟩) (fun b hb => by cases hb) (by omega) HO2.out.read (Nat.le_refl _) (Nat.le_refl _) HLn.out.1
      (fun b off n c e => by
        obtain ⟨e1, -, -⟩ := Value.slice.inj e
        have := HOl.out b (by rw [e1]; rfl)
        have := HG.out; have := HN.out
        exact ⟨by omega, by omega, fun h => by cases h⟩)
      (fun p n c e => by
        obtain ⟨-, p', cap', e', h1, h2⟩ := (ownB_of HO2.out).byC
        obtain ⟨-, e2, e3⟩ := Value.slice.inj e
        obtain ⟨-, -, e4⟩ := Value.slice.inj e'
        unfold maxLen at h2
        omega) 0 (Nat.le_refl _) (0 + L.length) (by rw [Nat.zero_add]; exact hroom) rfl (by simpa using hLp))
    go_wp2_with fail
    refine HW.out.mono ?_
    rintro e w3 ⟨rfl, oo3, no3, i3, j3, fv3, wrn3, hno3, hj3, hS3, hg3, hO3, hF3, hf3, hw3, hb3⟩
    rw [put_none] at hf3
    have far : ∀ k, n1 ≤ k → k < w1.heap.size → ¬ (k = n0 + 1 ∨ k = g ∨ (Value.slice none 0 0).ownBlock = some k) := by
      rintro k hk hl (e | e | e)
      · have := HN.out; omega
      · have := HG.out; omega
      · cases e
    have hlt1 := HB1.out.size
    have HD3 := Lib.hid ((hg3.block _ (Array.getElem?_eq_some_iff.1 HD2.out).1 (far _ HBd.out.2 (Nat.lt_of_lt_of_le HLt.out.2.1 hlt1))).trans HD2.out)
    have HN3 := Lib.hid ((hg3.block _ (Array.getElem?_eq_some_iff.1 HN2.out).1 (far _ HBs.out.2 (Nat.lt_of_lt_of_le HLt.out.2.2.1 hlt1))).trans HN2.out)
    have HE3 := Lib.hid ((hg3.block _ (Array.getElem?_eq_some_iff.1 HE2.out).1 (far _ HEb.out.2 (Nat.lt_of_lt_of_le HLt.out.2.2.2 hlt1))).trans HE2.out)
    have hsz := HSz.out
    have hnn := HN.out
    have hgg := HG.out
    have HB3 := Lib.hid (HB2.out.trans (hg3.below (show n0 ≤ w2.heap.size by omega) (fun k e => by rcases e with e | e | e; omega; omega; cases e)))
    have HSy := Lib.hid (sync_any (s := s) hS3 HLn.out.2.2 hO3 hF3 hf3 hw3 (by have := HC2.out; refine ⟨by omega, by omega, by omega, by omega, by omega, this⟩) (by omega) hj3)
    have Hf3 := Lib.hid hf3
    have HBb3 := Lib.hid hb3
    have HS3' := Lib.hid hS3.own
    have HSz3 := Lib.hid hg3.size
    have c5 := (cell_at HD3.out).1
    have c6 := (cell_at HN3.out).1
    clear far hlt1 hsz hnn hgg hno3 hj3 hS3 hg3 hO3 hF3 hf3 hw3 hb3 HW HS2 HF2 HD2 HN2 HE2 HB2 HO2 c3 c4
    go_wp2_with fail
    refine (need_ok _).mono ?_
    rintro e w4 ⟨⟨u, rfl⟩, rfl⟩
    go_wp2_with fail
    refine HSy.out.mono ?_
    rintro e w4 ⟨rfl, oo4, hS4, hO4, hF4, hg4⟩
    have hsz := HSz.out
    have hnn := HN.out
    have hgg := HG.out
    have hs3 := HSz3.out
    have far : ∀ k, n1 ≤ k → k < w1.heap.size → ¬ (k = n0 + 1 ∨ k = g) := by
      rintro k hk hl (e | e)
      · omega
      · omega
    have HE4 := Lib.hid ((hg4.block _ (Array.getElem?_eq_some_iff.1 HE3.out).1 (far _ HEb.out.2 (Nat.lt_of_lt_of_le HLt.out.2.2.2 hsz.1))).trans HE3.out)
    have HB4 := Lib.hid (HB3.out.trans (hg4.below (show n0 ≤ w3.heap.size by omega) (fun k e => by rcases e with e | e; omega; omega)))
    have hf4 := Hf3.out.grow hg4 (fun k hk e => by
      have h1 := (World.ownsRow.lt Hf3.out k hk).1
      rcases e with e | e
      · omega
      · omega)
    have hch := chg_far hS4.own HE4.out (by decide)
    have HEnd := Lib.hid (show WroteAt n0 n1 Eb (n0 + 4) s L w w4 from ⟨DkY (n0 + 4) n0 (n0 + 1) (n0 + 2) (n0 + 3) g chg fv3, ⟨n0, w2.heap.size, n0, n0 + 1, n0 + 2, n0 + 3, g, room, 1, 1, no3, 1, 0, 1, _, oo4, _, chg, fv3, _, _, hS4, hF4, hf4, fun k e => e⟩, (by
      have hl := hS4.on.lt
      have hEl := HLt.out.2.2.2
      have h4 := hg4.size
      have hEn := HEb.out.2
      rintro k (e | e | e | e | e | e | e | e)
      · omega
      · omega
      · omega
      · omega
      · omega
      · omega
      · have h1 := World.ownsRow.lt hS4.own k e
        exact ⟨h1.1, fun e' => hch (by rw [← e']; exact e), h1.2⟩
      · have h1 := World.ownsRow.lt hf4 k e
        omega), HB4.out, by have := hg4.size; omega⟩)
    clear hsz hnn hgg hs3 far hS4 hO4 hF4 hg4 hf4 hch HSy
    go_wp2_with fail
    refine (need_ok _).mono ?_
    rintro e w5 ⟨⟨u, rfl⟩, rfl⟩
    go_wp2_with fail
    refine bodyPost_end (results_none rfl _ _ _) rfl ?_
    rw [HRl.out]
    exact ⟨cell_at HE4.out, .inl ⟨⟨_, rfl⟩, HEnd.out⟩⟩
  · exact absurd HR.out hno
end
section
open Go Go.RowKit Go.Maps Go.WideMaps

theorem Grow.of_setCell (W : World) (B : Nat) (u : Value) : Grow (fun k => k = B) W (W.setCell ⟨B, 0, none⟩ u) := (Grow.refl _ W).setCell ⟨B, 0, none⟩ u (fun _ => rfl)
/-- What Write leaves of a run on a new disk. -/
def WrittenAt (n0 d : Nat) (s : ByteArray) (L : List UInt8) (w w' : World) : Prop := ∃ Y, FlAt w' d s L Y ∧ (∀ k, Y k → n0 ≤ k ∧ k < w'.heap.size) ∧ Below n0 w w'
set_option maxRecDepth 100000 in
set_option maxHeartbeats 4000000 in
theorem rwrite_any {n0 : Nat} {w : World} {room : Int} (v : Value) (E : List Ct) (s : ByteArray)
    (h : DkS n0 w (n0 + 4) n0 (n0 + 1) (n0 + 2) (n0 + 3) room 0 0 0 0 0 0 (.map []) (.map []) (.map []) (.map []) (.slice none 0 0) []) (hroom : ((runL E).length : Int) / 64 + 1 ≤ room)
    (hv : EnIn w.heap.size w v E) (hE : E.length ≤ 1000) (hK : Kin E) (hR : IsRun E) (hL : (runL E).length ≤ 500000) (hs : 1 ≤ s.size ∧ s.size ≤ 64) (G : Glob w) :
    Calls Tryz.prog 24 #[.pointer (some ⟨n0 + 4, 0, none⟩), .string s, v] w fun e w' => e = .returned (.int .i64 0) ∧ WrittenAt n0 (n0 + 4) s (runL E) w w' := by
  have HS := Lib.hid h
  have HV := Lib.hid hv
  have HG := Lib.hid G
  have HLn := Lib.hid (And.intro hL hs)
  have HKR := Lib.hid (And.intro hK hR)
  have hdl := h.on.lt
  obtain ⟨pv, cv, rfl, -⟩ := hv
  have HDl := Lib.hid hdl
  clear h G hL hs hK hR hdl
  go_enter Tryz.func24, Tryz.ntmps24
  go_wp2_with fail
  obtain ⟨wb, hwb⟩ : ∃ wb, wb = ((w.alloc (.cells #[.pointer (some ⟨n0 + 4, 0, none⟩)] 43)).alloc (.cells #[.string s] 9)).alloc (.cells #[.slice pv E.length cv] 22) := ⟨_, rfl⟩
  have hsb : wb.heap.size = w.heap.size + 3 := by rw [hwb]; simp
  have h0 : wb.heap[w.heap.size]? = some (.cells #[.pointer (some ⟨n0 + 4, 0, none⟩)] 43 (0, 0)) := by
    rw [hwb]
    exact (Below.heap_alloc _ _ _ (by simp only [World.size_alloc]; omega)).trans ((Below.heap_alloc _ _ _ (by simp only [World.size_alloc]; omega)).trans (World.alloc_heap_new w _))
  have h1 : wb.heap[w.heap.size + 1]? = some (.cells #[.string s] 9 (0, 0)) := by
    rw [hwb]
    have n1 := World.alloc_heap_new (w.alloc (.cells #[.pointer (some ⟨n0 + 4, 0, none⟩)] 43)) (.cells #[.string s] 9)
    simp only [World.size_alloc] at n1
    exact (Below.heap_alloc _ _ _ (by simp only [World.size_alloc]; omega)).trans n1
  have h2 : wb.heap[w.heap.size + 1 + 1]? = some (.cells #[.slice pv E.length cv] 22 (0, 0)) := by
    rw [hwb]
    have n2 := World.alloc_heap_new ((w.alloc (.cells #[.pointer (some ⟨n0 + 4, 0, none⟩)] 43)).alloc (.cells #[.string s] 9)) (.cells #[.slice pv E.length cv] 22)
    simp only [World.size_alloc] at n2
    exact n2
  have hbb : Below w.heap.size w wb := by
    rw [hwb]
    exact (((Below.refl _ _).alloc (Nat.le_refl _) _).alloc (by simp) _).alloc (by simp only [World.size_alloc]; omega) _
  have hEb := below_new wb (.cells #[.int .i64 0] 25)
  have hbE := hbb.trans (hEb.mono hbb.size)
  have hEc := World.alloc_heap_new wb (.cells #[.int .i64 0] 25)
  have kk : ∀ {k : Nat} {o : Obj}, wb.heap[k]? = some o → (wb.alloc (.cells #[.int .i64 0] 25)).heap[k]? = some o := fun h => (hEb.block _ (Array.getElem?_eq_some_iff.1 h).1).trans h
  have hdl := HDl.out
  have hw := write1_any (n1 := n0 + 5) (bl := w.heap.size + 1 + 1) (bd := w.heap.size) (bs := w.heap.size + 1) (Eb := wb.heap.size) (.slice pv E.length cv) E s (HS.out.same (Grow.fromB hbE)) rfl hroom ⟨kk h2, by omega⟩ ⟨kk h0, by omega⟩ ⟨kk h1, by omega⟩ ⟨hEc, by omega⟩
    ((HV.out.below hbE).mono hbE.size) hE HKR.out.1 HKR.out.2 HLn.out.1 HLn.out.2 (HG.out.below hbE) (fun _ _ => False)
  have HT := Lib.hid (tried_any 67 _ wb _ _ (enters_of Tryz.func67 (by kernel_rfl) rfl) hw)
  have HBE := Lib.hid hbE
  rw [← hwb]
  clear hw hEc hEb hbb h0 h1 h2 hwb kk hbE
  refine HT.out.mono ?_
  rintro e W ⟨W1, n, ⟨rfl, hR⟩ | hx, rfl, rfl⟩
  · have HR := Lib.hid hR
    clear hR HT
    go_wp2_with fail
    go_ret
    obtain ⟨Y, hf, hY, hb, hn⟩ := HR.out
    refine ⟨rfl, Y, hf.grow (Grow.of_setCell _ _ _) (fun k e e' => (hY k e').2.1 (e.trans hsb.symm)), fun k e => ⟨(hY k e).1, ?_⟩, ?_⟩
    · have := (hY k e).2.2
      simpa using this
    · exact ((HBE.out.mono (by omega)).trans hb).setCell (p := ⟨w.heap.size + 3, 0, none⟩) (by simp only; omega) _
  · exact hx.elim
end
section
open Go Go.RowKit

theorem set_kept {W : World} {B b : Nat} {v u : Value} {t : TypeId} (h : W.heap[b]? = some (.cells #[v] t (0, 0))) (hne : b ≠ B) : (W.setCell ⟨B, 0, none⟩ u).heap[b]? = some (.cells #[v] t (0, 0)) :=
  ((turned_setCell W B u).block _ (Array.getElem?_eq_some_iff.1 h).1 hne).trans h
theorem set_new {W : World} {b : Nat} {v u : Value} {t : TypeId} (h : W.heap[b]? = some (.cells #[v] t (0, 0))) : (W.setCell ⟨b, 0, none⟩ u).heap[b]? = some (.cells #[u] t (0, 0)) := heap_setCell_same W b 0 #[v] _ u h
/-- How what is answered may end. -/
def AnsR (R : Value → World → Prop) (Rx : Int → World → Prop) (w : World) (e : Ending) (w' : World) : Prop := Below w.heap.size w w' ∧ ((∃ v, e = .returned v ∧ R v w' ∧ ∃ p, v = .pointer p) ∨ ∃ n, e = .panicked (errP n) ∧ Rx n w')
set_option maxRecDepth 100000 in
set_option maxHeartbeats 1000000 in
theorem answ1R_any (k : Nat) (caps : Array Value) (bf br Eb : Nat) (w : World) (R : Value → World → Prop) (Rx : Int → World → Prop) (eg : ∀ args w, (callFunc k args).run Tryz.prog w = .ok (.enter k args) w)
    (hf : w.heap[bf]? = some (.cells #[.func (.func k) #[] caps] 157 (0, 0))) (hr : w.heap[br]? = some (.cells #[.pointer none] 53 (0, 0))) (hE : w.heap[Eb]? = some (.cells #[.int .i64 0] 25 (0, 0))) (hne : Eb ≠ br)
    (hdo : Calls Tryz.prog k caps w (AnsR R Rx w)) :
    Calls Tryz.prog 130 #[.pointer (some ⟨bf, 0, none⟩), .pointer (some ⟨br, 0, none⟩)] w
      (DoEnd Eb (fun W' => ∃ W v, R v W ∧ (∃ p, v = .pointer p) ∧ W' = W.setCell ⟨br, 0, none⟩ v ∧ Below w.heap.size w W) (fun n W' => Rx n W' ∧ Below w.heap.size w W')) := by
  have HD := Lib.hid hdo
  have HR := Lib.hid hr
  have HE := Lib.hid hE
  have HN := Lib.hid hne
  have c0 := (cell_at hf).1
  have hri : ∀ args w, (callFunc k args).run Tryz.prog w = .ok (.enter k args) w := eg
  clear hdo hr hE hne hf
  go_enter Tryz.func130, Tryz.ntmps130
  go_wp2_with fail
  refine HD.out.mono ?_
  rintro e w1 ⟨hb, ⟨v, rfl, hv, hs⟩ | ⟨n, rfl, hx⟩⟩
  · have HB := Lib.hid hb
    have HV := Lib.hid hv
    have HS := Lib.hid hs
    have hr1 := (hb.block _ (Array.getElem?_eq_some_iff.1 HR.out).1).trans HR.out
    have hE1 := (hb.block _ (Array.getElem?_eq_some_iff.1 HE.out).1).trans HE.out
    have HE1 := Lib.hid (cell_at (set_kept (u := v) hE1 HN.out))
    obtain ⟨c1, f1⟩ := cell_at hr1
    obtain ⟨p, rfl⟩ := hs
    clear hb hv hr1 hE1 c0
    go_wp2_with fail
    refine bodyPost_end (results_none rfl _ _ _) rfl ?_
    exact ⟨HE1.out, .inl ⟨⟨_, rfl⟩, w1, _, HV.out, HS.out, rfl, HB.out⟩⟩
  · have hE1 := (hb.block _ (Array.getElem?_eq_some_iff.1 HE.out).1).trans HE.out
    have HE1 := Lib.hid (cell_at hE1)
    have HX := Lib.hid (And.intro hx hb)
    clear hb hx hE1 c0
    go_wp2_with fail
    exact ⟨rfl, HE1.out, .inr ⟨n, rfl, HX.out⟩⟩
/-- What answered leaves. -/
def AnswR (R : Value → World → Prop) (Rx : Int → World → Prop) (w : World) (e : Ending) (w' : World) : Prop :=
  Below w.heap.size w w' ∧ ∃ W, Turned (fun k => k = w.heap.size + 1 ∨ k = w.heap.size + 2) W w' ∧ ((∃ v, e = .returned (.tuple #[v, .int .i64 0]) ∧ R v W) ∨ ∃ n, e = .returned (.tuple #[.pointer none, .int .i64 n]) ∧ Rx n W)
set_option maxRecDepth 100000 in
set_option maxHeartbeats 1000000 in
theorem answeredR_any (k : Nat) (caps : Array Value) (w : World) (R : Value → World → Prop) (Rx : Int → World → Prop) (eg : ∀ args w, (callFunc k args).run Tryz.prog w = .ok (.enter k args) w)
    (hdo : ∀ wE, Below w.heap.size w wE → (wE.heap.size = w.heap.size + 3 ∧ wE.heap[w.heap.size + 1]? = some (.cells #[.pointer none] 53 (0, 0)) ∧ wE.heap[w.heap.size + 2]? = some (.cells #[.int .i64 0] 25 (0, 0))) → Calls Tryz.prog k caps wE (AnsR R Rx wE)) :
    Calls Tryz.prog 74 #[.func (.func k) #[] caps] w (AnswR R Rx w) := by
  obtain ⟨wb, hwb⟩ : ∃ wb, wb = (w.alloc (.cells #[.func (.func k) #[] caps] 157)).alloc (.cells #[.pointer none] 53) := ⟨_, rfl⟩
  have hsb : wb.heap.size = w.heap.size + 2 := by rw [hwb]; simp
  have h0 : wb.heap[w.heap.size]? = some (.cells #[.func (.func k) #[] caps] 157 (0, 0)) := by
    rw [hwb]
    exact (Below.heap_alloc _ _ _ (by simp only [World.size_alloc]; omega)).trans (World.alloc_heap_new w _)
  have h1 : wb.heap[w.heap.size + 1]? = some (.cells #[.pointer none] 53 (0, 0)) := by
    rw [hwb]
    have n1 := World.alloc_heap_new (w.alloc (.cells #[.func (.func k) #[] caps] 157)) (.cells #[.pointer none] 53)
    simp only [World.size_alloc] at n1
    exact n1
  have hbb : Below w.heap.size w wb := by
    rw [hwb]
    exact ((Below.refl _ _).alloc (Nat.le_refl _) _).alloc (by simp) _
  obtain ⟨wE, hwE⟩ : ∃ wE, wE = wb.alloc (.cells #[.int .i64 0] 25) := ⟨_, rfl⟩
  have hbE : Below wb.heap.size wb wE := by rw [hwE]; exact below_new wb _
  have hE : wE.heap[wb.heap.size]? = some (.cells #[.int .i64 0] 25 (0, 0)) := by rw [hwE]; exact World.alloc_heap_new wb _
  have hsE : wE.heap.size = w.heap.size + 3 := by rw [hwE, World.size_alloc, hsb]
  have hB := hbb.trans (hbE.mono hbb.size)
  have k0 := (hbE.block _ (Array.getElem?_eq_some_iff.1 h0).1).trans h0
  have k1 := (hbE.block _ (Array.getElem?_eq_some_iff.1 h1).1).trans h1
  have h1w := answ1R_any k caps w.heap.size (w.heap.size + 1) wb.heap.size wE R Rx eg k0 k1 hE (by omega) (hdo wE hB ⟨hsE, k1, by rw [← hsb]; exact hE⟩)
  have HT := Lib.hid (tried_any 130 #[.pointer (some ⟨w.heap.size, 0, none⟩), .pointer (some ⟨w.heap.size + 1, 0, none⟩)] wb (fun W' => ∃ W v, R v W ∧ (∃ p, v = .pointer p) ∧ W' = W.setCell ⟨w.heap.size + 1, 0, none⟩ v ∧ Below wE.heap.size wE W) (fun n W' => Rx n W' ∧ Below wE.heap.size wE W') (enters_of Tryz.func130 (by kernel_rfl) rfl) (by rw [← hwE]; exact h1w))
  have HK1 := Lib.hid k1
  have HE := Lib.hid hE
  have HB := Lib.hid hB
  have HSz := Lib.hid (And.intro hsb hsE)
  clear h1w hdo k0 k1 hE hB h0 h1 hbb hbE hwE eg
  go_enter Tryz.func74, Tryz.ntmps74
  go_wp2_with fail
  rw [← hwb]
  clear hwb hsb hsE
  refine HT.out.mono ?_
  rintro e W ⟨W1, n, ⟨rfl, W0, v, hv, hs, rfl, hb⟩ | ⟨hx, hb⟩, rfl, rfl⟩
  · have hr0 := (hb.block _ (Array.getElem?_eq_some_iff.1 HK1.out).1).trans HK1.out
    have hr1 := set_kept (B := wb.heap.size) (u := .int .i64 0) (set_new (u := v) hr0) (by have := HSz.out.1; omega)
    have hr2 := set_new (u := v) hr1
    obtain ⟨c1, f1⟩ := cell_at hr1
    have c2 := (cell_at hr2).1
    have HV := Lib.hid hv
    have HB0 := Lib.hid hb
    obtain ⟨p, rfl⟩ := hs
    clear hv hb hr0 hr1 hr2 HT
    go_wp2_with fail
    refine bodyPost_ret (v := .tuple #[(.pointer p), .int .i64 0]) (by simp [results, Tryz.results74, go_sem, c2]) rfl ?_
    have t1 := turned_setCell W0 (w.heap.size + 1) (.pointer p)
    have t2 := turned_setCell (W0.setCell ⟨w.heap.size + 1, 0, none⟩ (.pointer p)) wb.heap.size (.int .i64 0)
    have t3 := turned_setCell ((W0.setCell ⟨w.heap.size + 1, 0, none⟩ (.pointer p)).setCell ⟨wb.heap.size, 0, none⟩ (.int .i64 0)) (w.heap.size + 1) (.pointer p)
    have hz := HSz.out
    have tt := ((t1.mono (Z := fun k => k = w.heap.size + 1 ∨ k = w.heap.size + 2) (fun k e => .inl e)).trans t2 (fun k _ e => .inr (by have e1 : k = wb.heap.size := e; omega))).trans t3 (fun k _ e => .inl e)
    have hbw := HB.out.trans (HB0.out.mono HB.out.size)
    exact ⟨hbw.trans (tt.below hbw.size (fun k e => by rcases e with e | e <;> omega)), W0, tt, .inl ⟨_, rfl, HV.out⟩⟩
  · have hr0 := (hb.block _ (Array.getElem?_eq_some_iff.1 HK1.out).1).trans HK1.out
    have hr1 := set_kept (B := wb.heap.size) (u := .int .i64 n) hr0 (by have := HSz.out.1; omega)
    have hr2 := set_new (u := .pointer none) hr1
    obtain ⟨c1, f1⟩ := cell_at hr1
    have c2 := (cell_at hr2).1
    have HX := Lib.hid hx
    have HB0 := Lib.hid hb
    clear hx hb hr0 hr1 hr2 HT
    go_wp2_with fail
    refine bodyPost_ret (v := .tuple #[.pointer none, .int .i64 n]) (by simp [results, Tryz.results74, go_sem, c2]) rfl ?_
    have t2 := turned_setCell W1 wb.heap.size (.int .i64 n)
    have t3 := turned_setCell (W1.setCell ⟨wb.heap.size, 0, none⟩ (.int .i64 n)) (w.heap.size + 1) (.pointer none)
    have hz := HSz.out
    have tt := (t2.mono (Z := fun k => k = w.heap.size + 1 ∨ k = w.heap.size + 2) (fun k e => .inr (by have e1 : k = wb.heap.size := e; omega))).trans t3 (fun k _ e => .inl e)
    have hbw := HB.out.trans (HB0.out.mono HB.out.size)
    exact ⟨hbw.trans (tt.below hbw.size (fun k e => by rcases e with e | e <;> omega)), W1, tt, .inr ⟨n, rfl, HX.out⟩⟩
/-- How what is answered may end. -/
def AnsC (R : Value → World → Prop) (Rx : Int → World → Prop) (w : World) (e : Ending) (w' : World) : Prop := Below w.heap.size w w' ∧ ((∃ v, e = .returned v ∧ R v w' ∧ ∃ p n c, v = .slice p n c) ∨ ∃ n, e = .panicked (errP n) ∧ Rx n w')
set_option maxRecDepth 100000 in
set_option maxHeartbeats 1000000 in
theorem answ1C_any (k : Nat) (caps : Array Value) (bf br Eb : Nat) (w : World) (R : Value → World → Prop) (Rx : Int → World → Prop) (eg : ∀ args w, (callFunc k args).run Tryz.prog w = .ok (.enter k args) w)
    (hf : w.heap[bf]? = some (.cells #[.func (.func k) #[] caps] 114 (0, 0))) (hr : w.heap[br]? = some (.cells #[.slice none 0 0] 22 (0, 0))) (hE : w.heap[Eb]? = some (.cells #[.int .i64 0] 25 (0, 0))) (hne : Eb ≠ br)
    (hdo : Calls Tryz.prog k caps w (AnsC R Rx w)) :
    Calls Tryz.prog 109 #[.pointer (some ⟨bf, 0, none⟩), .pointer (some ⟨br, 0, none⟩)] w
      (DoEnd Eb (fun W' => ∃ W v, R v W ∧ (∃ p n c, v = .slice p n c) ∧ W' = W.setCell ⟨br, 0, none⟩ v ∧ Below w.heap.size w W) (fun n W' => Rx n W' ∧ Below w.heap.size w W')) := by
  have HD := Lib.hid hdo
  have HR := Lib.hid hr
  have HE := Lib.hid hE
  have HN := Lib.hid hne
  have c0 := (cell_at hf).1
  have hri : ∀ args w, (callFunc k args).run Tryz.prog w = .ok (.enter k args) w := eg
  clear hdo hr hE hne hf
  go_enter Tryz.func109, Tryz.ntmps109
  go_wp2_with fail
  refine HD.out.mono ?_
  rintro e w1 ⟨hb, ⟨v, rfl, hv, hs⟩ | ⟨n, rfl, hx⟩⟩
  · have HB := Lib.hid hb
    have HV := Lib.hid hv
    have HS := Lib.hid hs
    have hr1 := (hb.block _ (Array.getElem?_eq_some_iff.1 HR.out).1).trans HR.out
    have hE1 := (hb.block _ (Array.getElem?_eq_some_iff.1 HE.out).1).trans HE.out
    have HE1 := Lib.hid (cell_at (set_kept (u := v) hE1 HN.out))
    obtain ⟨c1, f1⟩ := cell_at hr1
    obtain ⟨p, n, c, rfl⟩ := hs
    clear hb hv hr1 hE1 c0
    go_wp2_with fail
    refine bodyPost_end (results_none rfl _ _ _) rfl ?_
    exact ⟨HE1.out, .inl ⟨⟨_, rfl⟩, w1, _, HV.out, HS.out, rfl, HB.out⟩⟩
  · have hE1 := (hb.block _ (Array.getElem?_eq_some_iff.1 HE.out).1).trans HE.out
    have HE1 := Lib.hid (cell_at hE1)
    have HX := Lib.hid (And.intro hx hb)
    clear hb hx hE1 c0
    go_wp2_with fail
    exact ⟨rfl, HE1.out, .inr ⟨n, rfl, HX.out⟩⟩
/-- What answered leaves. -/
def AnswC (R : Value → World → Prop) (Rx : Int → World → Prop) (w : World) (e : Ending) (w' : World) : Prop :=
  Below w.heap.size w w' ∧ ∃ W, Turned (fun k => k = w.heap.size + 1 ∨ k = w.heap.size + 2) W w' ∧ ((∃ v, e = .returned (.tuple #[v, .int .i64 0]) ∧ R v W) ∨ ∃ n, e = .returned (.tuple #[.slice none 0 0, .int .i64 n]) ∧ Rx n W)
set_option maxRecDepth 100000 in
set_option maxHeartbeats 1000000 in
theorem answeredC_any (k : Nat) (caps : Array Value) (w : World) (R : Value → World → Prop) (Rx : Int → World → Prop) (eg : ∀ args w, (callFunc k args).run Tryz.prog w = .ok (.enter k args) w)
    (hdo : ∀ wE, Below w.heap.size w wE → (wE.heap.size = w.heap.size + 3 ∧ wE.heap[w.heap.size + 1]? = some (.cells #[.slice none 0 0] 22 (0, 0)) ∧ wE.heap[w.heap.size + 2]? = some (.cells #[.int .i64 0] 25 (0, 0))) → Calls Tryz.prog k caps wE (AnsC R Rx wE)) :
    Calls Tryz.prog 49 #[.func (.func k) #[] caps] w (AnswC R Rx w) := by
  obtain ⟨wb, hwb⟩ : ∃ wb, wb = (w.alloc (.cells #[.func (.func k) #[] caps] 114)).alloc (.cells #[.slice none 0 0] 22) := ⟨_, rfl⟩
  have hsb : wb.heap.size = w.heap.size + 2 := by rw [hwb]; simp
  have h0 : wb.heap[w.heap.size]? = some (.cells #[.func (.func k) #[] caps] 114 (0, 0)) := by
    rw [hwb]
    exact (Below.heap_alloc _ _ _ (by simp only [World.size_alloc]; omega)).trans (World.alloc_heap_new w _)
  have h1 : wb.heap[w.heap.size + 1]? = some (.cells #[.slice none 0 0] 22 (0, 0)) := by
    rw [hwb]
    have n1 := World.alloc_heap_new (w.alloc (.cells #[.func (.func k) #[] caps] 114)) (.cells #[.slice none 0 0] 22)
    simp only [World.size_alloc] at n1
    exact n1
  have hbb : Below w.heap.size w wb := by
    rw [hwb]
    exact ((Below.refl _ _).alloc (Nat.le_refl _) _).alloc (by simp) _
  obtain ⟨wE, hwE⟩ : ∃ wE, wE = wb.alloc (.cells #[.int .i64 0] 25) := ⟨_, rfl⟩
  have hbE : Below wb.heap.size wb wE := by rw [hwE]; exact below_new wb _
  have hE : wE.heap[wb.heap.size]? = some (.cells #[.int .i64 0] 25 (0, 0)) := by rw [hwE]; exact World.alloc_heap_new wb _
  have hsE : wE.heap.size = w.heap.size + 3 := by rw [hwE, World.size_alloc, hsb]
  have hB := hbb.trans (hbE.mono hbb.size)
  have k0 := (hbE.block _ (Array.getElem?_eq_some_iff.1 h0).1).trans h0
  have k1 := (hbE.block _ (Array.getElem?_eq_some_iff.1 h1).1).trans h1
  have h1w := answ1C_any k caps w.heap.size (w.heap.size + 1) wb.heap.size wE R Rx eg k0 k1 hE (by omega) (hdo wE hB ⟨hsE, k1, by rw [← hsb]; exact hE⟩)
  have HT := Lib.hid (tried_any 109 #[.pointer (some ⟨w.heap.size, 0, none⟩), .pointer (some ⟨w.heap.size + 1, 0, none⟩)] wb (fun W' => ∃ W v, R v W ∧ (∃ p n c, v = .slice p n c) ∧ W' = W.setCell ⟨w.heap.size + 1, 0, none⟩ v ∧ Below wE.heap.size wE W) (fun n W' => Rx n W' ∧ Below wE.heap.size wE W') (enters_of Tryz.func109 (by kernel_rfl) rfl) (by rw [← hwE]; exact h1w))
  have HK1 := Lib.hid k1
  have HE := Lib.hid hE
  have HB := Lib.hid hB
  have HSz := Lib.hid (And.intro hsb hsE)
  clear h1w hdo k0 k1 hE hB h0 h1 hbb hbE hwE eg
  go_enter Tryz.func49, Tryz.ntmps49
  go_wp2_with fail
  rw [← hwb]
  clear hwb hsb hsE
  refine HT.out.mono ?_
  rintro e W ⟨W1, n, ⟨rfl, W0, v, hv, hs, rfl, hb⟩ | ⟨hx, hb⟩, rfl, rfl⟩
  · have hr0 := (hb.block _ (Array.getElem?_eq_some_iff.1 HK1.out).1).trans HK1.out
    have hr1 := set_kept (B := wb.heap.size) (u := .int .i64 0) (set_new (u := v) hr0) (by have := HSz.out.1; omega)
    have hr2 := set_new (u := v) hr1
    obtain ⟨c1, f1⟩ := cell_at hr1
    have c2 := (cell_at hr2).1
    have HV := Lib.hid hv
    have HB0 := Lib.hid hb
    obtain ⟨p, n, c, rfl⟩ := hs
    clear hv hb hr0 hr1 hr2 HT
    go_wp2_with fail
    refine bodyPost_ret (v := .tuple #[(.slice p n c), .int .i64 0]) (by simp [results, Tryz.results49, go_sem, c2]) rfl ?_
    have t1 := turned_setCell W0 (w.heap.size + 1) (.slice p n c)
    have t2 := turned_setCell (W0.setCell ⟨w.heap.size + 1, 0, none⟩ (.slice p n c)) wb.heap.size (.int .i64 0)
    have t3 := turned_setCell ((W0.setCell ⟨w.heap.size + 1, 0, none⟩ (.slice p n c)).setCell ⟨wb.heap.size, 0, none⟩ (.int .i64 0)) (w.heap.size + 1) (.slice p n c)
    have hz := HSz.out
    have tt := ((t1.mono (Z := fun k => k = w.heap.size + 1 ∨ k = w.heap.size + 2) (fun k e => .inl e)).trans t2 (fun k _ e => .inr (by have e1 : k = wb.heap.size := e; omega))).trans t3 (fun k _ e => .inl e)
    have hbw := HB.out.trans (HB0.out.mono HB.out.size)
    exact ⟨hbw.trans (tt.below hbw.size (fun k e => by rcases e with e | e <;> omega)), W0, tt, .inl ⟨_, rfl, HV.out⟩⟩
  · have hr0 := (hb.block _ (Array.getElem?_eq_some_iff.1 HK1.out).1).trans HK1.out
    have hr1 := set_kept (B := wb.heap.size) (u := .int .i64 n) hr0 (by have := HSz.out.1; omega)
    have hr2 := set_new (u := .slice none 0 0) hr1
    obtain ⟨c1, f1⟩ := cell_at hr1
    have c2 := (cell_at hr2).1
    have HX := Lib.hid hx
    have HB0 := Lib.hid hb
    clear hx hb hr0 hr1 hr2 HT
    go_wp2_with fail
    refine bodyPost_ret (v := .tuple #[.slice none 0 0, .int .i64 n]) (by simp [results, Tryz.results49, go_sem, c2]) rfl ?_
    have t2 := turned_setCell W1 wb.heap.size (.int .i64 n)
    have t3 := turned_setCell (W1.setCell ⟨wb.heap.size, 0, none⟩ (.int .i64 n)) (w.heap.size + 1) (.slice none 0 0)
    have hz := HSz.out
    have tt := (t2.mono (Z := fun k => k = w.heap.size + 1 ∨ k = w.heap.size + 2) (fun k e => .inr (by have e1 : k = wb.heap.size := e; omega))).trans t3 (fun k _ e => .inl e)
    have hbw := HB.out.trans (HB0.out.mono HB.out.size)
    exact ⟨hbw.trans (tt.below hbw.size (fun k e => by rcases e with e | e <;> omega)), W1, tt, .inr ⟨n, rfl, HX.out⟩⟩
end
end Go.Proofs.YtdjhfcopnhcljaaGreatDoor
