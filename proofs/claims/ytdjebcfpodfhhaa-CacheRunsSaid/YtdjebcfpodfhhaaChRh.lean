/-
  The document's cache: the walk of front.
-/
import Derived.Test.YtdjebcfpodfhhaaChRg
namespace Go.Proofs.Ytdjebcfpodfhhaa
open Go Go.RowKit Go.Maps Go.WideMaps

theorem heldBox (w : World) (r : ByteArray) (i : Int) (p : Option Addr) (l c : Nat) : (w.alloc (.cells #[.string r, .int .i64 i, .slice p l c] 52)).cell? ((⟨w.heap.size, 0, none⟩ : Addr).add 0) = some (.string r) ∧ (w.alloc (.cells #[.string r, .int .i64 i, .slice p l c] 52)).cell? ((⟨w.heap.size, 0, none⟩ : Addr).add 1) = some (.int .i64 i) ∧ (w.alloc (.cells #[.string r, .int .i64 i, .slice p l c] 52)).cell? ((⟨w.heap.size, 0, none⟩ : Addr).add 2) = some (.slice p l c) := by
  rw [addr_add, addr_add, addr_add]
  exact ⟨(cell_of_row _ w.heap.size 0 _ _ (0, 0) (heap_alloc_new w _)).trans rfl, (cell_of_row _ w.heap.size 1 _ _ (0, 0) (heap_alloc_new w _)).trans rfl, (cell_of_row _ w.heap.size 2 _ _ (0, 0) (heap_alloc_new w _)).trans rfl⟩
theorem front_map {Q : List (Value × Pg)} {L : List Pg} (hQ : Q.map (·.2) = L) (pv : Value) (r : ByteArray) (i : Int) (E : List (List V3 × Int)) : ((pv, r, i, E) :: Q.filter (fun q => !eqK q.2.1 q.2.2.1 r i)).map (·.2) = (r, i, E) :: restL r i L := by
  rw [← hQ]
  unfold restL
  rw [List.map_cons, List.filter_map]
  rfl
set_option maxHeartbeats 4000000 in
set_option maxRecDepth 100000 in
theorem rfront_any {Y : Nat → Prop} {w : World} {b : Nat} {room h m g : Int} {L : List Pg} (H : RfA Y w b room h m g L) (r : ByteArray) (i : Int) (pp : Option Addr) (pl pc : Nat) (E : List (List V3 × Int)) (hE : EntS (fun k => Y k ∧ k ≠ b) w (.slice pp pl pc) E) (hL : L.length ≤ 900) :
    Calls Try.prog 38 #[ptr b, .agg #[.string r, .int .i64 i, .slice pp pl pc]] w fun e w' => e = .returned (.tuple #[]) ∧ RfE Y w b room h m g ((r, i, E) :: restL r i L) w' := by
  obtain ⟨p, cap, Q, hQ, -, hc1, hQe, hcs⟩ := H.open_
  have HH := Lib.hid H
  have HC1 := Lib.hid hc1
  have HCs := Lib.hid hcs
  have HQe := Lib.hid hQe
  have HE := Lib.hid hE
  have HFr := Lib.hid H.kind
  have hl : Q.length ≤ 900 := by rw [← hQ] at hL; simpa using hL
  have hl' : (Q.length : Int) ≤ 900 := by omega
  have HQ := Lib.hid hQ
  clear hc1 hcs hQ hL H hQe hE
  go_enter Try.func38, Try.ntmps38
  go_wp2_with fail
  have HR0 := Lib.hid (show ((w.alloc (.cells #[.string r, .int .i64 i, .slice pp pl pc] 52)).alloc (.cells #[.string r, .int .i64 i, .slice pp pl pc] 52)).ownsRow (w.heap.size + 1) 52 3 (.slice (some ⟨w.heap.size + 1, 0, none⟩) 1 1) 1 (rowH [(.slice pp pl pc, r, i, E)]) from by
    have := World.ownsRow_lit (e := 52) (size := 3) (base := w.heap.size + 1) (w.alloc (.cells #[.string r, .int .i64 i, .slice pp pl pc] 52)) #[.string r, .int .i64 i, .slice pp pl pc] 1 (by simp) (by decide) rfl
    simpa [rowH] using this)
  have HK0 := Lib.hid (show ((w.alloc (.cells #[.string r, .int .i64 i, .slice pp pl pc] 52)).alloc (.cells #[.string r, .int .i64 i, .slice pp pl pc] 52)).cell? ⟨w.heap.size, 0, none⟩ = some (.string r) ∧ ((w.alloc (.cells #[.string r, .int .i64 i, .slice pp pl pc] 52)).alloc (.cells #[.string r, .int .i64 i, .slice pp pl pc] 52)).cell? ⟨w.heap.size, 1, none⟩ = some (.int .i64 i) from by
    have hb := heldBox w r i pp pl pc
    rw [addr_add, addr_add] at hb
    exact ⟨(World.cell?_alloc_lt _ _ _ (by simp)).trans hb.1, (World.cell?_alloc_lt _ _ _ (by simp)).trans hb.2.1⟩)
  have HB0 := Lib.hid (show Below w.heap.size w ((w.alloc (.cells #[.string r, .int .i64 i, .slice pp pl pc] 52)).alloc (.cells #[.string r, .int .i64 i, .slice pp pl pc] 52)) from ((Below.refl _ _).alloc (Nat.le_refl _) _).alloc (by simp) _)
  have HS0 := Lib.hid (show w.heap.size + 1 ≤ ((w.alloc (.cells #[.string r, .int .i64 i, .slice pp pl pc] 52)).alloc (.cells #[.string r, .int .i64 i, .slice pp pl pc] 52)).heap.size by simp)
  generalize (w.alloc (.cells #[.string r, .int .i64 i, .slice pp pl pc] 52)).alloc (.cells #[.string r, .int .i64 i, .slice pp pl pc] 52) = W0 at *
  have hsz : (w.alloc (.cells #[.string r, .int .i64 i, .slice pp pl pc] 52)).heap.size = w.heap.size + 1 := by simp
  try rw [hsz]
  clear hsz
  go_loopw [4, 5] (fun lv i' wr => ∃ (k : Nat) (K : List (Value × Pg)), k ≤ Q.length ∧ i' = .int .i64 k ∧ Hid (K = (.slice pp pl pc, r, i, E) :: (Q.take k).filter (fun q => !eqK q.2.1 q.2.2.1 r i)) ∧ Hid (wr.ownsRow (w.heap.size + 1) 52 3 lv K.length (rowH K)) ∧ Hid (Below (w.heap.size + 1) W0 wr)) (fun _ i' _ => Q.length - (intOf i').toNat)
  case atStart => exact ⟨0, [(.slice pp pl pc, r, i, E)], Nat.zero_le _, rfl, Lib.hid rfl, HR0, Lib.hid (Below.refl _ _)⟩
  case round =>
    obtain ⟨k, K, hk, rfl, hK, hR, hB⟩ := hrel
    clear HR0
    have h0 : (0 : Int) ≤ (k : Int) := by omega
    have hBw := Lib.hid (HB0.out.trans (hB.out.mono (Nat.le_succ _)))
    have c1 := HC1.out wr hBw.out
    have HKl := Lib.hid (show K.length ≤ 901 by
      rw [hK.out]
      refine Nat.succ_le_succ (Nat.le_trans (List.length_filter_le _ _) ?_)
      rw [List.length_take]
      omega)
    obtain ⟨pk, ck, hlv⟩ : ∃ p c, u4 = .slice p K.length c := by
      obtain ⟨g', c', e, -⟩ := World.ownsRow.form hR.out (by rw [hK.out]; simp)
      exact ⟨_, _, e⟩
    subst hlv
    by_cases hlt : k < Q.length
    · have hlt' : (k : Int) < (Q.length : Int) := by omega
      obtain ⟨q, hq⟩ : ∃ q, Q[k]? = some q := ⟨_, List.getElem?_eq_getElem hlt⟩
      obtain ⟨bb, off, hp, hcq⟩ : ∃ bb off, p = some ⟨bb, off, none⟩ ∧ ∀ W, Below w.heap.size w W → CellsH W bb off Q := by
        rcases HCs.out with h | h
        · rw [h] at hlt; simp at hlt
        · exact h
      subst hp
      obtain ⟨d0, d1, d2⟩ := hcq wr hBw.out k q hq
      have HT := Lib.hid (show Q.take (k + 1) = Q.take k ++ [q] from by
        rw [List.take_add_one, hq]
        rfl)
      obtain ⟨lp, ll, lc, hsl⟩ := (HQe.out q (List.mem_of_getElem? hq)).slice3
      obtain ⟨qv, rq, iq, Eq⟩ := q
      dsimp only at d0 d1 d2 hsl
      subst hsl
      have k0 : wr.cell? ⟨w.heap.size, 0, none⟩ = some (.string r) := (hB.out.cell (p := ⟨w.heap.size, 0, none⟩) (Nat.lt_succ_self _)).trans HK0.out.1
      have k1 : wr.cell? ⟨w.heap.size, 1, none⟩ = some (.int .i64 i) := (hB.out.cell (p := ⟨w.heap.size, 1, none⟩) (Nat.lt_succ_self _)).trans HK0.out.2
      have q := neK_run rq r iq i
      clear hcq hq
      cases hb : eqK rq iq r i with
      | true =>
        rw [hb] at q
        have HN := Lib.hid hb
        clear hb
        go_wp2_with fail
        go_region
        go_wp2_with fail
        go_roundw
        case rel => exact ⟨k + 1, K, by omega, by go_num, Lib.hid (by rw [hK.out, HT.out, List.filter_append]; simp [HN.out]), hR, Lib.hid hB.out.drew⟩
        case measure => simp [intOf]; omega
      | false =>
        rw [hb] at q
        have HN := Lib.hid hb
        have HO := Lib.hid (show (wr.drew.alloc (.cells #[.string rq, .int .i64 iq, .slice lp ll lc] 52)).ownsRow (w.heap.size + 1) 52 3 (.slice pk K.length ck) K.length (rowH K) from World.ownsRow.alloc hR.out _)
        have HC := Lib.hid (heldBox wr.drew rq iq lp ll lc)
        have HSz := Lib.hid (show w.heap.size + 1 ≤ (wr.drew.alloc (.cells #[.string rq, .int .i64 iq, .slice lp ll lc] 52)).heap.size from by
          have h1 := hB.out.size
          have h2 := HS0.out
          have h3 : (wr.drew.alloc (.cells #[.string rq, .int .i64 iq, .slice lp ll lc] 52)).heap.size = wr.heap.size + 1 := by simp
          omega)
        clear hb
        go_wp2_with fail
        go_region
        go_wp2_with (first
          | (at_builtin; refine wpList_appH1 rfl _ _ rfl (w.heap.size + 1) (.slice pk K.length ck) K (.slice lp ll lc, rq, iq, Eq) ⟨wr.heap.size, 0, none⟩ rfl rfl HO.out (by have := HKl.out; omega) HSz.out HC.out.1 HC.out.2.1 HC.out.2.2 ⟨_, _, _, rfl⟩ ?_; intro p' cap' w8 ho8 hg8
             have HO8 := Lib.hid ho8
             have HG8 := Lib.hid hg8
             clear ho8 hg8))
        go_roundw
        case rel => exact ⟨k + 1, K ++ [(.slice lp ll lc, rq, iq, Eq)], by omega, by go_num, Lib.hid (by rw [hK.out, HT.out, List.filter_append]; simp [HN.out]), HO8, Lib.hid (((hB.out.drew).alloc (Nat.le_trans HS0.out hB.out.size) _).grown HG8.out HSz.out (fun k hk => (World.ownsRow.lt HO.out k hk).1))⟩
        case measure => simp [intOf]; omega
    · obtain rfl : k = Q.length := by omega
      have hge : (Q.length : Int) ≤ (Q.length : Int) := by omega
      have f1 : wr.frozen? ⟨b, 1, none⟩ = false := ((Upd.of_below (C := fun _ _ => False) hBw.out).kind _ _ _ HFr.out).free 1
      have HE2 := Lib.hid (show RfE Y w b room h m g ((r, i, E) :: restL r i L) (wr.setCell ⟨b, 1, none⟩ (.slice pk K.length ck)) from by
        have e := front_map HQ.out (.slice pp pl pc) r i E
        have hK' := hK.out
        rw [List.take_length] at hK'
        rw [← hK'] at e
        rw [← e]
        have hz := hB.out.size
        have hs0 := HS0.out
        refine HH.out.setL hBw.out (HeB.own hR.out (fun x h1 h2 => ⟨.inr ⟨by omega, h2⟩, fun e => by have := HFr.out.lt; omega⟩) ?_)
        intro q hq
        have hS : EntS (fun k => Y k ∧ k ≠ b) w q.1 q.2.2.2 := by
          rw [hK'] at hq
          rcases List.mem_cons.1 hq with rfl | hq
          · exact HE.out
          · exact HQe.out q (List.mem_filter.1 hq).1
        exact hS.same (fun x hx => ⟨.inl hx.1, hx.2⟩) (fun x o hx => hBw.out.cell (p := ⟨x, o, none⟩) (HH.out.lt x hx.1)))
      go_wp2_with fail
      go_end0
      exact ⟨rfl, HE2.out⟩
end Go.Proofs.Ytdjebcfpodfhhaa
