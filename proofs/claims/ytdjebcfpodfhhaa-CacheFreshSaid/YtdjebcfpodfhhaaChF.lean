/-
  The walk of the law CacheFresh.
-/
import Derived.Test.YtdjebcfpodfhhaaChFp
import Derived.IntWalk
namespace Go.Proofs.Ytdjebcfpodfhhaa
open Go Go.RowKit Go.Maps Go.WideMaps

/-- Bytes that an argument brings, in blocks below n. -/
def ByL (n : Nat) (W : World) (v : Value) (l : List Int) : Prop := ∃ p cap, v = .slice p l.length cap ∧ l.length ≤ maxLen ∧ (l = [] ∨ ∃ b off, p = some ⟨b, off, none⟩ ∧ b < n ∧ ∀ j k, l[j]? = some k → W.cell? ⟨b, off + j, none⟩ = some (.int .u8 k)) ∧ ∀ k ∈ l, 0 ≤ k ∧ k ≤ 255
theorem ByL.upd {n : Nat} {W W' : World} {v : Value} {l : List Int} (h : ByL n W v l) (hb : Below n W W') : ByL n W' v l := by
  obtain ⟨p, cap, rfl, h1, h2, h3⟩ := h
  refine ⟨p, cap, rfl, h1, ?_, h3⟩
  rcases h2 with h | ⟨b, off, e, hlt, hc⟩
  · exact .inl h
  · exact .inr ⟨b, off, e, hlt, fun j k hj => (hb.cell (p := ⟨b, _, none⟩) hlt).trans (hc j k hj)⟩
/-- What the rounds keep. -/
structure FrJ (w0 wr : World) (n0 n1 : Nat) (c : Nat) (n i : Nat) (v1 fv : Value) (l : List Int) (L : List Pg) (F : List Ky) (g : Int) : Prop where
  ca : CaX n0 n1 i wr c (n : Int) 0 0 g L
  fr : KeyB n1 wr fv F
  eq : keysL L = F.take n
  nd : F.Nodup
  len : F.length ≤ i
  by_ : ByL w0.heap.size wr v1 l
  below : Below w0.heap.size w0 wr
  lo : w0.heap.size ≤ n0
  gle : g ≤ i
theorem FrJ.keep {w0 wr W : World} {n0 n1 c n i : Nat} {v1 fv : Value} {l : List Int} {L : List Pg} {F : List Ky} {g : Int} (h : FrJ w0 wr n0 n1 c n i v1 fv l L F g) (hb : Below wr.heap.size wr W) : FrJ w0 W n0 n1 c n i v1 fv l L F g :=
  ⟨h.ca.below hb, h.fr.below hb, h.eq, h.nd, h.len, h.by_.upd (hb.mono h.below.size), h.below.trans (hb.mono h.below.size), h.lo, h.gle⟩
theorem FrJ.n1le {w0 wr : World} {n0 n1 c n i : Nat} {v1 fv : Value} {l : List Int} {L : List Pg} {F : List Ky} {g : Int} (h : FrJ w0 wr n0 n1 c n i v1 fv l L F g) : n1 ≤ wr.heap.size := by
  obtain ⟨_, _, _, _, _, _, _, _, _, _, _, _, h, _⟩ := h.ca
  exact h
theorem FrJ.byte {w0 wr : World} {n0 n1 c n i k : Nat} {p1 : Option Addr} {cp1 : Nat} {fv : Value} {l : List Int} {L : List Pg} {F : List Ky} {g : Int} (h : FrJ w0 wr n0 n1 c n i (.slice p1 l.length cp1) fv l L F g) (hk : k < l.length) :
    ∃ b off y, p1 = some ⟨b, off, none⟩ ∧ b < w0.heap.size ∧ wr.cell? ⟨b, off + k, none⟩ = some (.int .u8 y) ∧ 0 ≤ y ∧ y ≤ 255 := by
  obtain ⟨p, cap, e, -, h1 | ⟨b, off, rfl, hlt, hc⟩, hr⟩ := h.by_
  · rw [h1] at hk
    simp at hk
  · injection e with e1
    have hm := hr l[k] (List.getElem_mem hk)
    exact ⟨b, off, l[k], e1, hlt, hc k _ (List.getElem?_eq_getElem hk), hm.1, hm.2⟩
theorem FrJ.ent {w0 wr W : World} {n0 n1 c n i : Nat} {v1 fv : Value} {l : List Int} {L : List Pg} {F : List Ky} {g : Int} (h : FrJ w0 wr n0 n1 c n i v1 fv l L F g) {v : Value} {E : List (List V3 × Int)} (he : EntS (fun k => wr.heap.size ≤ k) W v E) (_hb : Below wr.heap.size wr W) : EntS (fun k => k < W.heap.size ∧ ¬ (n0 ≤ k ∧ k < n1)) W v E :=
  he.inside.mono fun k hk => ⟨hk.2, fun e => by have := h.n1le; have := hk.1; omega⟩
theorem KeyBox.span {kb n0 n1 : Nat} {r : ByteArray} {i : Int} {W W' : World} (h : KeyBox kb r i W) (hu : Upd (Span n0 n1) W W') (hk : kb < n0 ∨ n1 ≤ kb) : KeyBox kb r i W' :=
  ⟨(hu.cell kb 0 (lt_of_cell h.1) (fun e => by have := e.1; have := e.2; omega)).trans h.1, (hu.cell kb 1 (lt_of_cell h.1) (fun e => by have := e.1; have := e.2; omega)).trans h.2⟩
theorem CellsK.take {W : World} {b off : Nat} {F : List Ky} (h : CellsK W b off F) (n : Nat) : CellsK W b off (F.take n) := fun j k hj => h j k (by
  rw [List.getElem?_take] at hj
  split at hj
  · exact hj
  · cases hj)
theorem fr_end {w0 wr w5 : World} {n0 n1 c n i q cf B : Nat} {v1 kv : Value} {pf : Option Addr} {l : List Int} {L : List Pg} {F : List Ky} {g : Int} (h : FrJ w0 wr n0 n1 c n i v1 (.slice pf F.length cf) l L F g) (hb : Below wr.drew.heap.size wr.drew w5) (hr : w5.ownsRow B 33 2 kv L.length (rowK (keysL L))) (hq : q = min n F.length) (hi : i ≤ 60) :
    KeyIn w5 kv (F.take n) ∧ KeyIn w5 (.slice pf q cf) (F.take n) ∧ Below w0.heap.size w0 w5 := by
  have hl : L.length = (F.take n).length := by rw [← h.eq]; simp [keysL]
  have hfl := h.len
  have hq' : q = (F.take n).length := by rw [List.length_take, hq]
  refine ⟨?_, ?_, h.below.drew.trans (hb.mono h.below.size)⟩
  · rw [h.eq, hl] at hr
    exact KeyIn.own hr (by rw [List.length_take]; omega)
  · have hf := ((h.fr.below (W' := wr.drew) ((Below.refl _ _).drew)).below hb)
    obtain ⟨p, cap, e, -, hc⟩ := hf
    injection e with e1 e2 e3
    subst e1 e3
    refine ⟨_, _, by rw [hq'], by rw [List.length_take]; omega, ?_⟩
    rcases hc with hc | ⟨b, off, rfl, -, hlt, hcc⟩
    · exact .inl (by rw [hc]; simp)
    · exact .inr ⟨b, off, rfl, hlt, hcc.take n⟩
set_option maxRecDepth 100000 in
set_option maxHeartbeats 8000000 in
theorem lfresh (x : Nat) (hx : x ≤ 255) (v1 : Value) (l : List Int) (w : World) (hl : ByA w v1 l) :
    Calls Try.prog 5 #[.int .u8 (x : Int), v1] w fun e w' => e = .returned (.bool true) ∧ Below w.heap.size w w' := by
  have HL := Lib.hid hl
  obtain ⟨p1, cp1, rfl, hll, -, -⟩ := hl
  unfold maxLen at hll
  have hx0 : (0 : Int) ≤ (x : Int) := by omega
  have hx1 : (x : Int) ≤ 255 := by omega
  go_enter Try.func5, Try.ntmps5
  go_wp2_with fail
  refine (awake_true w).mono ?_
  rintro e w1 ⟨rfl, hb1⟩
  have HB1 := Lib.hid hb1
  clear hb1
  go_wp2_with fail
  obtain ⟨n, hn, hn7⟩ : ∃ n : Nat, (x : Int) % 8 = (n : Int) ∧ n ≤ 7 := ⟨x % 8, by omega, by omega⟩
  rw [hn]
  have hn7' : (n : Int) ≤ 7 := by omega
  have hn0 : (0 : Int) ≤ (n : Int) := by omega
  clear hn hx hx0 hx1
  refine (newX w1 (n : Int) hn0 (by omega)).mono ?_
  rintro e w2 ⟨rfl, hca, hb2⟩
  have HJ0 := Lib.hid (show FrJ w w2 w1.heap.size w2.heap.size (w1.heap.size + 3) n 0 (.slice p1 l.length cp1) (.slice none 0 0) l [] [] 0 from ⟨hca, ⟨none, 0, rfl, by simp, .inl rfl⟩, by simp [keysL], List.nodup_nil, by simp, ByL.upd (ByL.upd HL.out HB1.out) (hb2.mono HB1.out.size), HB1.out.trans (hb2.mono HB1.out.size), HB1.out.size, by decide⟩)
  generalize w1.heap.size + 3 = c at *
  generalize w1.heap.size = n0 at *
  generalize w2.heap.size = n1 at *
  clear hca hb2 HL HB1
  go_wp2_with fail
  go_loopw [8, 9] (fun fv i wr => ∃ (k : Nat) (L : List Pg) (F : List Ky) (g : Int) (n1 : Nat), k ≤ 60 ∧ k ≤ l.length ∧ i = .int .i64 k ∧ Hid (FrJ w wr n0 n1 c n k (.slice p1 l.length cp1) fv l L F g)) (fun _ i _ => 60 - (intOf i).toNat)
  case atStart => exact ⟨0, [], [], 0, n1, by omega, by omega, rfl, HJ0⟩
  case round =>
    obtain ⟨k, L, F, g, m1, hk60, hkl, rfl, hJ⟩ := hrel
    clear HJ0
    obtain ⟨pf, cf, hfv⟩ : ∃ pf cf, u8 = .slice pf F.length cf := by
      obtain ⟨p, cap, e, -⟩ := hJ.out.fr
      exact ⟨p, cap, e⟩
    subst hfv
    have h0 : (0 : Int) ≤ (k : Int) := by omega
    have hk60' : (k : Int) ≤ 60 := by omega
    by_cases hlt : k < l.length ∧ k < 60
    · have hlt1 : (k : Int) < (l.length : Int) := by omega
      have hlt2 : (k : Int) < 60 := by omega
      obtain ⟨bb, bo, y, hp1, hbb, hby, hy0, hy1⟩ := hJ.out.byte hlt.1
      subst hp1
      have HK := Lib.hid (And.intro hlt hbb)
      clear hlt hk60 hkl hbb
      go_wp2_with fail
      refine (key_any (y % 12) wr).mono ?_
      rintro e w3 ⟨rfl, hb3⟩
      have HJ4 := Lib.hid ((hJ.out.keep hb3).keep (below_new w3 (.cells #[.string nmA, .int .i64 (y % 12)] 33)))
      have HB4 := Lib.hid (keyBox_mk w3 nmA (y % 12))
      have HY4 : (w3.alloc (.cells #[.string nmA, .int .i64 (y % 12)] 33)).cell? ⟨bb, bo + k, none⟩ = some (.int .u8 y) := (World.cell?_alloc_lt _ _ _ (Nat.lt_of_lt_of_le (lt_of_cell hby) hb3.size)).trans ((hb3.cell (p := ⟨bb, _, none⟩) (lt_of_cell hby)).trans hby)
      have hkm := Lib.hid (show m1 ≤ w3.heap.size from Nat.le_trans hJ.out.n1le hb3.size)
      clear hb3 hby hJ
      go_wp2_with fail
      generalize w3.heap.size = kb at *
      generalize w3.alloc (.cells #[.string nmA, .int .i64 (y % 12)] 33) = W4 at *
      have HD := Lib.hid (HJ4.out.keep (Below.refl _ W4).drew)
      have HBd := Lib.hid (show KeyBox kb nmA (y % 12) W4.drew from HB4.out)
      have HYd := Lib.hid (show W4.drew.cell? ⟨bb, bo + k, none⟩ = some (.int .u8 y) from HY4)
      clear HJ4 HB4 HY4
      have hwy : IntKind.i64.wrap y = y := IntWalk.i64_in _ (by omega)
      go_region_held3 (fun X => X.cell? ⟨kb, 0, none⟩ = some (.string nmA) ∧ X.cell? ⟨kb, 1, none⟩ = some (.int .i64 (y % 12)) ∧ X.cell? ⟨bb, bo + k, none⟩ = some (.int .u8 y))
        (first | exact ⟨HBd.out.1, HBd.out.2, HYd.out⟩ | exact ⟨HB5.out.1, HB5.out.2, HY5.out⟩ | exact ⟨HB6.out.1, HB6.out.2, HY6.out⟩)
        ((first
          | (go_at_call 23; refine (page_any y W4.drew).mono ?_; rintro e w5 ⟨v5, rfl, he5, hb5⟩; have HB5 := Lib.hid (HBd.out.below hb5); have HY5 := Lib.hid ((hb5.cell (p := ⟨bb, _, none⟩) (lt_of_cell HYd.out)).trans HYd.out); have HJ5 := Lib.hid (HD.out.keep hb5); have HE5 := Lib.hid (HD.out.ent he5 hb5); have HBy5 := Lib.hid HJ5.out.by_; clear he5 hb5)
          | (go_at_call 17; refine (putX HJ5.out.ca nmA (y % 12) (okA _ (by omega) (by omega)) v5 (pgE y) HE5.out (by have := HK.out.1.2; omega) (by have := HJ5.out.gle; have := HK.out.1.2; omega)).mono ?_; rintro e w6 ⟨rfl, hu6, hc6⟩; have HB6 := Lib.hid (HB5.out.span hu6 (.inr hkm.out)); have HY6 := Lib.hid ((hu6.cell bb _ (lt_of_cell HY5.out) (fun e => by have := HK.out.2; have := HJ5.out.lo; have := e.1; omega)).trans HY5.out); have HJ6 := Lib.hid (And.intro hc6 (And.intro (HJ5.out.fr.upd hu6 (fun k o hk e => by have := e.2; omega)) (HJ5.out.below.trans (hu6.below HJ5.out.below.size (fun _ _ e => Nat.le_trans HJ5.out.lo e.1))))); have HUp := Lib.hid (show Below w.heap.size w5 w6 from hu6.below HJ5.out.below.size (fun _ _ e => Nat.le_trans HJ5.out.lo e.1)); clear hu6 hc6)))
      obtain ⟨q0, q1⟩ := HB6.out
      have HS := Lib.hid (And.intro HJ5.out.eq (And.intro HJ5.out.nd (And.intro HJ5.out.len (And.intro HJ5.out.by_ (And.intro HJ5.out.lo (And.intro HJ5.out.gle (And.intro HJ6.out.2.2 HJ5.out.below)))))))
      have HC6 := Lib.hid HJ6.out.1
      have HF6 := Lib.hid HJ6.out.2.1
      have HBy := Lib.hid (show ByL w.heap.size w6 (.slice (some ⟨bb, bo, none⟩) l.length cp1) l from HBy5.out.upd HUp.out)
      obtain ⟨key, hkey⟩ : ∃ key : Ky, key = (nmA, y % 12) := ⟨_, rfl⟩
      clear HD HBd HYd HJ5 HJ6 HE5 HY5 HY6 HB5
      go_wp2_with fail
      have HR7 := Lib.hid (show (w6.alloc (.cells #[.string nmA, .int .i64 (y % 12)] 33)).ownsRow w6.heap.size 33 2 (.slice (some ⟨w6.heap.size, 0, none⟩) 1 1) 1 (rowK [key]) from by rw [hkey]; exact World.ownsRow_lit w6 #[.string nmA, .int .i64 (y % 12)] 1 (Nat.le_refl _) (by decide) rfl)
      have HB7 := Lib.hid (below_new w6 (.cells #[.string nmA, .int .i64 (y % 12)] 33))
      have HKey := Lib.hid hkey
      clear hkey
      generalize w6.alloc (.cells #[.string nmA, .int .i64 (y % 12)] 33) = W7 at *
      go_loopw [11, 12] (fun lv a wr2 => ∃ (j : Nat) (K : List Ky), j ≤ F.length ∧ a = .int .i64 j ∧ Hid (K = key :: (F.take j).filter (neK key)) ∧ Hid (wr2.ownsRow w6.heap.size 33 2 lv K.length (rowK K)) ∧ Hid (Below w6.heap.size w6 wr2)) (fun _ a _ => F.length - (intOf a).toNat)
      case atStart => exact ⟨0, [key], Nat.zero_le _, rfl, Lib.hid rfl, HR7, HB7⟩
      case round =>
        obtain ⟨j, K, hj, rfl, hK, hR, hB⟩ := hrel
        clear HR7 HB7
        have h0j : (0 : Int) ≤ (j : Int) := by omega
        have hFk := Lib.hid HS.out.2.2.1
        have hF60 : (F.length : Int) ≤ 60 := by have := hFk.out; have := HK.out.1.2; omega
        by_cases hjl : j < F.length
        · have hjl' : (j : Int) < (F.length : Int) := by omega
          obtain ⟨b2, o2, cc2, hv2, hb2, hc2⟩ := (HF6.out.below hB.out).some hjl
          injection hv2 with hp2 _ hcap2
          subst hp2 hcap2
          obtain ⟨z, hz⟩ : ∃ z, F[j]? = some z := ⟨_, List.getElem?_eq_getElem hjl⟩
          obtain ⟨x0, x1⟩ := hc2 j z hz
          obtain ⟨y0, y1⟩ := (show KeyBox kb nmA (y % 12) w6 from ⟨q0, q1⟩).below hB.out
          have hKl := Lib.hid (show K.length ≤ 1000 from by
            rw [hK.out]
            have := List.length_filter_le (neK key) (F.take j)
            have := hFk.out
            have := HK.out.1.2
            simp only [List.length_cons, List.length_take] at *
            omega)
          have hT := Lib.hid (show F.take (j + 1) = F.take j ++ [z] from by
            rw [List.take_add_one, hz]
            rfl)
          obtain ⟨zn, zi⟩ := z
          have q := neK_run zn nmA zi (y % 12)
          have HZ := Lib.hid (show (!eqK zn zi nmA (y % 12)) = neK key (zn, zi) from by rw [HKey.out]; rfl)
          clear hz hc2
          cases hne : neK key (zn, zi) with
          | true =>
            rw [HZ.out, hne] at q
            have HN := Lib.hid hne
            have HO := Lib.hid (show (wr.alloc (.cells #[.string zn, .int .i64 zi] 33)).drew.ownsRow w6.heap.size 33 2 u11 K.length (rowK K) from World.ownsRow.alloc hR.out _)
            have hC0 := Lib.hid (show (wr.alloc (.cells #[.string zn, .int .i64 zi] 33)).drew.cell? ((⟨wr.heap.size, 0, none⟩ : Addr).add 0) = some (.string zn) from by
              rw [addr_add]; exact (cell_of_row _ wr.heap.size 0 _ _ (0, 0) (heap_alloc_new wr _)).trans rfl)
            have hC1 := Lib.hid (show (wr.alloc (.cells #[.string zn, .int .i64 zi] 33)).drew.cell? ((⟨wr.heap.size, 0, none⟩ : Addr).add 1) = some (.int .i64 zi) from by
              rw [addr_add]; exact (cell_of_row _ wr.heap.size 1 _ _ (0, 0) (heap_alloc_new wr _)).trans rfl)
            have hBs := Lib.hid (show w6.heap.size ≤ (wr.alloc (.cells #[.string zn, .int .i64 zi] 33)).drew.heap.size from by have := hB.out.size; simp; omega)
            clear hne
            go_wp2_with fail
            go_region
            go_wp2_with (first
              | (at_builtin; refine wpList_appK rfl _ _ rfl w6.heap.size u11 K (zn, zi) ⟨wr.heap.size, 0, none⟩ rfl rfl HO.out hKl.out hBs.out hC0.out hC1.out ?_; intro p' cap' w8 ho8 hg8
                 have HO8 := Lib.hid ho8
                 have HG8 := Lib.hid hg8
                 clear ho8 hg8))
            go_roundw
            case rel => exact ⟨j + 1, K ++ [(zn, zi)], by omega, by go_num, Lib.hid (by rw [hK.out, hT.out, List.filter_append]; simp [HN.out]), HO8, Lib.hid (((hB.out.alloc hB.out.size _).drew).grown HG8.out hBs.out (fun k hk => (World.ownsRow.lt HO.out k hk).1))⟩
            case measure => simp [intOf]; omega
          | false =>
            rw [HZ.out, hne] at q
            have HN := Lib.hid hne
            clear hne
            go_wp2_with fail
            go_region
            go_wp2_with fail
            go_roundw
            case rel => exact ⟨j + 1, K, by omega, by go_num, Lib.hid (by rw [hK.out, hT.out, List.filter_append]; simp [HN.out]), hR, Lib.hid hB.out.drew⟩
            case measure => simp [intOf]; omega
        · obtain rfl : j = F.length := by omega
          have hge : (F.length : Int) ≤ (F.length : Int) := by omega
          go_wp2_with fail
          obtain ⟨s1, s2, s3, s4, s5, s6, s7, s8⟩ := HS.out
          have hk60 := HK.out.1.2
          have hkl := HK.out.1.1
          have hgl := putG_le (room := (n : Int)) (g := g) (r := nmA) (i := y % 12) (L := L)
          have hfr : KeyB w6.heap.size wr u11 (freshK key F) := by
            have e : K = freshK key F := by rw [hK.out, List.take_length]; rfl
            have h2 := hR.out
            rw [e] at h2
            exact KeyB.own h2 (by have := freshK_len key F; omega)
          refine ⟨⟨k + 1, _, freshK key F, _, w6.heap.size, by omega, by omega, by go_num, Lib.hid ⟨HC6.out.below hB.out, hfr, ?_, freshK_nodup s2, ?_, HBy.out.upd (hB.out.mono s7.size), s7.trans (hB.out.mono s7.size), s5, ?_⟩⟩, ?_⟩
          · rw [HKey.out]
            exact fresh_step n nmA (y % 12) (pgE y) s1 s2
          · have := freshK_len key F
            omega
          · omega
          · simp [intOf]
            omega
    · have hex : (l.length : Int) ≤ (k : Int) ∨ ((k : Int) < (l.length : Int) ∧ (60 : Int) ≤ (k : Int)) := by omega
      have hFl := hJ.out.len
      have hcap : F.length ≤ cf := by
        obtain ⟨p, cap, e, h, -⟩ := hJ.out.fr
        injection e with _ _ e
        omega
      obtain ⟨q, hq, hqF, hqn⟩ : ∃ q : Nat, min (n : Int) (F.length : Int) = (q : Int) ∧ q ≤ F.length ∧ q = min n F.length := ⟨min n F.length, by omega, by omega, rfl⟩
      have HQ := Lib.hid hqn
      have hq0 : (0 : Int) ≤ (q : Int) := by omega
      have hqc : (q : Int) ≤ (cf : Int) := by omega
      clear hqn
      have HK := Lib.hid hk60
      clear hk60
      rcases hex with hex | ⟨hex1, hex2⟩
      all_goals go_wp2_with fail
      all_goals
        have HD0 := Lib.hid (hJ.out.ca.below ((Below.refl _ _).drew))
        go_region_held3 (fun _ => True) (exact trivial) ((first
          | (go_at_call 13; refine (keysX HD0.out).mono ?_; rintro e w5 ⟨kv, rfl, hr5, hb5⟩; have HE := Lib.hid (fr_end hJ.out hb5 hr5 HQ.out HK.out); clear hr5 hb5)
          | (go_at_call 12; refine (samekeys_same kv (.slice pf q cf) (F.take n) w5 HE.out.1 HE.out.2.1).mono ?_; rintro e w6 ⟨rfl, hb6⟩; have HZ := Lib.hid (HE.out.2.2.trans (hb6.mono HE.out.2.2.size)); clear hb6)))
        all_goals
          go_wp2_with fail
          go_ret
          exact ⟨rfl, HZ.out⟩
end Go.Proofs.Ytdjebcfpodfhhaa
