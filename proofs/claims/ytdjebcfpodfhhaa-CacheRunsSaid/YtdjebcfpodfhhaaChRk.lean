/-
  The document's cache: Keys, New.
-/
import Derived.Test.YtdjebcfpodfhhaaChRp
namespace Go.Proofs.Ytdjebcfpodfhhaa
open Go Go.RowKit Go.Maps Go.WideMaps

section
variable {Y : Nat → Prop} {w : World} {b : Nat} {room h m g : Int} {L : List Pg}
theorem pkBox (w : World) (r : ByteArray) (i : Int) : (w.alloc (.cells #[.string r, .int .i64 i] 33)).cell? ((⟨w.heap.size, 0, none⟩ : Addr).add 0) = some (.string r) ∧ (w.alloc (.cells #[.string r, .int .i64 i] 33)).cell? ((⟨w.heap.size, 0, none⟩ : Addr).add 1) = some (.int .i64 i) := by
  rw [addr_add, addr_add]
  exact keyBox_mk w r i
set_option maxHeartbeats 4000000 in
set_option maxRecDepth 100000 in
theorem rkeys_any (H : RfA Y w b room h m g L) (hL : L.length ≤ 800) : Calls Try.prog 14 #[ptr b] w (KeysX w L) := by
  obtain ⟨p, cap, Q, hQ, -, hc1, -, hcs⟩ := H.open_
  have HC1 := Lib.hid hc1
  have HCs := Lib.hid hcs
  have hl : Q.length ≤ 800 := by rw [← hQ] at hL; simpa using hL
  have hl' : (Q.length : Int) ≤ 800 := by omega
  have HQ := Lib.hid hQ
  clear hc1 hcs hQ hL H
  go_enter Try.func14, Try.ntmps14
  go_wp2_with fail
  go_loopw [3, 4] (fun lv i' wr => ∃ k : Nat, k ≤ Q.length ∧ i' = .int .i64 k ∧ Hid (wr.ownsRow w.heap.size 33 2 lv (keysL (L.take k)).length (rowK (keysL (L.take k)))) ∧ Hid (Below w.heap.size w wr)) (fun _ i' _ => Q.length - (intOf i').toNat)
  case atStart => exact ⟨0, Nat.zero_le _, rfl, Lib.hid (World.ownsRow_nil _ _ _ _), Lib.hid (Below.refl _ _)⟩
  case round =>
    obtain ⟨k, hk, rfl, hR, hB⟩ := hrel
    have h0 : (0 : Int) ≤ (k : Int) := by omega
    have c1 := HC1.out wr hB.out
    have HKl := Lib.hid (show (keysL (L.take k)).length = k by
      unfold keysL
      rw [List.length_map, List.length_take, ← HQ.out, List.length_map]
      omega)
    by_cases hlt : k < Q.length
    · have hlt' : (k : Int) < (Q.length : Int) := by omega
      obtain ⟨q, hq⟩ : ∃ q, Q[k]? = some q := ⟨_, List.getElem?_eq_getElem hlt⟩
      obtain ⟨bb, off, hp, hcq⟩ : ∃ bb off, p = some ⟨bb, off, none⟩ ∧ ∀ W, Below w.heap.size w W → CellsH W bb off Q := by
        rcases HCs.out with h | h
        · rw [h] at hlt; simp at hlt
        · exact h
      subst hp
      obtain ⟨d0, d1, -⟩ := hcq wr hB.out k q hq
      have HT := Lib.hid (show keysL (L.take (k + 1)) = keysL (L.take k) ++ [(q.2.1, q.2.2.1)] from by
        rw [← HQ.out, List.take_add_one, List.getElem?_map, hq]
        simp [keysL])
      obtain ⟨qv, rq, iq, Eq⟩ := q
      dsimp only at d0 d1 HT
      have HO := Lib.hid (show (wr.alloc (.cells #[.string rq, .int .i64 iq] 33)).ownsRow w.heap.size 33 2 u3 (keysL (L.take k)).length (rowK (keysL (L.take k))) from World.ownsRow.alloc hR.out _)
      have HC := Lib.hid (pkBox wr rq iq)
      have HSz := Lib.hid (show w.heap.size ≤ (wr.alloc (.cells #[.string rq, .int .i64 iq] 33)).heap.size from by
        have h1 := hB.out.size
        have h3 : (wr.alloc (.cells #[.string rq, .int .i64 iq] 33)).heap.size = wr.heap.size + 1 := by simp
        omega)
      clear hcq hq
      go_wp2_with (first
        | (at_builtin; refine wpList_appK rfl _ _ rfl w.heap.size u3 (keysL (L.take k)) (rq, iq) ⟨wr.heap.size, 0, none⟩ rfl rfl HO.out (by have := HKl.out; omega) HSz.out HC.out.1 HC.out.2 ?_; intro p' cap' w8 ho8 hg8
           have HO8 := Lib.hid ho8
           have HG8 := Lib.hid hg8
           clear ho8 hg8))
      go_roundw
      case rel => exact ⟨k + 1, by omega, by go_num, Lib.hid (by rw [HT.out]; have := HO8.out; simpa using this), Lib.hid ((hB.out.alloc hB.out.size _).grown HG8.out HSz.out (fun k hk => (World.ownsRow.lt HO.out k hk).1))⟩
      case measure => simp [intOf]; omega
    · obtain rfl : k = Q.length := by omega
      have hge : (Q.length : Int) ≤ (Q.length : Int) := by omega
      have HE := Lib.hid (show KeysX w L (.returned u3) wr from by
        have e : L.take Q.length = L := List.take_of_length_le (by rw [← HQ.out]; simp)
        have h2 := hR.out
        rw [e] at h2
        refine ⟨u3, rfl, ?_, hB.out⟩
        have e2 : (keysL L).length = L.length := by simp [keysL]
        rw [← e2]
        exact h2)
      go_wp2_with fail
      go_ret
      exact HE.out
end
set_option maxRecDepth 100000 in
theorem rnew_any (w : World) (room : Int) (h1 : 0 ≤ room) (h2 : room ≤ 1024) : Calls Try.prog 9 #[.int .i64 room] w fun e w' => e = .returned (.tuple #[ptr w.heap.size, .int .i64 0]) ∧ RfA (fun k => k = w.heap.size) w' w.heap.size room 0 0 0 [] ∧ Below w.heap.size w w' := by
  have HE := Lib.hid (show RfA (fun k => k = w.heap.size) (w.alloc (.cells #[.int .i64 room, .slice none 0 0, .int .i64 0, .int .i64 0, .int .i64 0] 46)) w.heap.size room 0 0 0 [] from by
    have c : ∀ j u, (#[Value.int .i64 room, .slice none 0 0, .int .i64 0, .int .i64 0, .int .i64 0] : Array Value)[j]? = some u → (w.alloc (.cells #[.int .i64 room, .slice none 0 0, .int .i64 0, .int .i64 0, .int .i64 0] 46)).cell? ⟨w.heap.size, j, none⟩ = some u := fun j u hu => (cell_of_row _ w.heap.size j _ _ (0, 0) (heap_alloc_new w _)).trans hu
    exact ⟨c 0 _ rfl, ⟨_, c 1 _ rfl, none, 0, [], rfl, rfl, Nat.le_refl _, by simp, .inl rfl⟩, c 2 _ rfl, c 3 _ rfl, c 4 _ rfl, ⟨_, heap_alloc_new w _, rfl⟩, rfl, fun k hk => by rw [hk]; simp⟩)
  have HB := Lib.hid (below_new w (.cells #[.int .i64 room, .slice none 0 0, .int .i64 0, .int .i64 0, .int .i64 0] 46))
  have h1' : ¬ room < 0 := by omega
  have h2' : ¬ 1024 < room := by omega
  go_enter Try.func9, Try.ntmps9
  go_wp2_with fail
  go_ret2
  exact ⟨rfl, HE.out, HB.out⟩
end Go.Proofs.Ytdjebcfpodfhhaa
