/-
  The words of the walk of DiskSectors.
-/
import Derived.Test.YtnmeehhjfcciiaaDsV
import Derived.Test.YtnmeehhjfcciiaaDkAl
namespace Go.Proofs.Ytnmeehhjfcciiaa
open Go Go.RowKit Go.Maps Go.WideMaps

theorem newDk_R {w w1 : World} {room : Int} (h : NewDk w w1 room) : DkS w.heap.size w1 (w.heap.size + 4) w.heap.size (w.heap.size + 1) (w.heap.size + 2) (w.heap.size + 3) room 0 0 0 0 0 0 (.map []) (.map []) (.map []) (.map []) (.slice none 0 0) [] :=
  ⟨h.disk, h.files, h.olds, h.dir, h.fixed, World.ownsRow_nil _ _ _ _, by omega, fun k hk => (by cases hk), by omega⟩
/-- Bytes that an argument brings. -/
def ArgD (n : Nat) (w : World) (v : Value) (l : List UInt8) : Prop :=
  (l = [] ∧ v = .slice none 0 0) ∨ ∃ b off c, v = .slice (some ⟨b, off, none⟩) l.length c ∧ b < n ∧ (l.length ≤ c ∧ c ≤ 9223372036854775807) ∧ ∀ j (h : j < l.length), w.cell? ⟨b, off + j, none⟩ = some (.int .u8 ((l[j].toNat : Nat) : Int))
theorem ArgD.rd {n : Nat} {w : World} {v : Value} {l : List UInt8} (h : ArgD n w v l) : RdIn n w v l := by
  rcases h with ⟨rfl, rfl⟩ | ⟨b, off, c, rfl, hb, -, hc⟩
  · exact .inl ⟨rfl, .inl rfl⟩
  · exact .inr ⟨b, off, c, rfl, hb, hc⟩
theorem ArgD.same {n : Nat} {w w' : World} {v : Value} {l : List UInt8} (h : ArgD n w v l) (hg : Grow (fun _ => False) w w') (hn : n ≤ w.heap.size) : ArgD n w' v l := by
  rcases h with h | ⟨b, off, c, rfl, hb, hlc, hc⟩
  · exact .inl h
  · exact .inr ⟨b, off, c, rfl, hb, hlc, fun j hj => (World.cell?_of_block (a := ⟨b, off + j, none⟩) (hg.block b (by omega) (fun e => e))).trans (hc j hj)⟩
theorem ArgD.blk {n : Nat} {w : World} {v : Value} {l : List UInt8} (h : ArgD n w v l) {b off m c : Nat} (e : v = .slice (some ⟨b, off, none⟩) m c) : b < n := by
  rcases h with ⟨-, rfl⟩ | ⟨b', off', c', rfl, hb, -⟩
  · cases e
  · injection e with e1
    injection e1 with e1
    injection e1 with e1
    omega
theorem ArgD.cap {n : Nat} {w : World} {v : Value} {l : List UInt8} (h : ArgD n w v l) : ∀ p m c, v = .slice p m c → c ≤ 9223372036854775807 ∧ m ≤ c := by
  intro p m c e
  rcases h with ⟨-, rfl⟩ | ⟨b', off', c', rfl, -, hlc, -⟩
  · injection e with _ e1 e2
    omega
  · injection e with _ e1 e2
    omega
theorem ArgD.shp {n : Nat} {w : World} {v : Value} {l : List UInt8} (h : ArgD n w v l) : ∃ p c, v = .slice p l.length c ∧ l.length ≤ c ∧ c ≤ 9223372036854775807 := by
  rcases h with ⟨rfl, rfl⟩ | ⟨b', off', c', rfl, -, hlc, -⟩
  · exact ⟨none, 0, rfl, by simp, by omega⟩
  · exact ⟨_, c', rfl, hlc⟩
theorem ArgD.cut {n : Nat} {w : World} {p : Option Addr} {N c k : Nat} {l : List UInt8} (h : ArgD n w (.slice p N c) l) (hk : k ≤ l.length) (h0 : 0 < k) : ArgD n w (.slice p k c) (l.take k) ∧ (l.take k).length = k := by
  have hl : (l.take k).length = k := by rw [List.length_take]; omega
  rcases h with ⟨rfl, -⟩ | ⟨b, off, c', e, hb, hlc, hc⟩
  · exact absurd hk (by simp; omega)
  · injection e with e1 e2 e3
    subst e1 e3
    refine ⟨.inr ⟨b, off, c, by rw [hl], hb, by rw [hl]; omega, fun j hj => ?_⟩, hl⟩
    rw [hl] at hj
    have := hc j (by omega)
    rw [List.getElem_take]
    exact this
theorem some_of {n N c : Nat} {w : World} {p : Option Addr} {l : List UInt8} (h : OwnF n w (.slice p N c) l) (hl : 0 < l.length) : ∃ g, p = some ⟨g, 0, none⟩ ∧ l.length ≤ c ∧ c ≤ 9223372036854775807 := by
  rcases h.form with ⟨rfl, -⟩ | ⟨b, c', e, -, -, h1, h2, -⟩
  · cases hl
  · injection e with e1 _ e2
    subst e1 e2
    unfold maxLen at h2
    exact ⟨b, rfl, h1, by omega⟩
theorem bytes_ne {LA LB : List UInt8} (h : ¬ LA = LB) : ((⟨LA.toArray⟩ : ByteArray) == ⟨LB.toArray⟩) = false := by
  show (LA.toArray == LB.toArray) = false
  simpa using h
theorem lossCells {w : World} {k : Nat} {x : Int} {vk vs : Value} (h : w.heap[k]? = some (.cells #[.int .i64 x, vk, vs] 26 (0, 0))) : w.cell? ⟨k, 0, none⟩ = some (.int .i64 x) ∧ w.cell? ⟨k, 1, none⟩ = some vk ∧ w.cell? ⟨k, 2, none⟩ = some vs := ⟨cell_of_row w k 0 _ _ (0, 0) h, cell_of_row w k 1 _ _ (0, 0) h, cell_of_row w k 2 _ _ (0, 0) h⟩
theorem chg_ne {n0 m g : Nat} {w : World} {chg : Value} {xs : List Value} (h : w.ownsRow n0 72 3 chg m xs) (hf : FileAt w g (.slice none 0 0) 0 (.slice none 0 0)) : chg.ownBlock ≠ some g := by
  intro e
  obtain ⟨-, cur, hc⟩ := own_blockD h g e
  rw [hf] at hc
  injection hc with hc
  injection hc with _ hc _
  exact absurd hc (by decide)
end Go.Proofs.Ytnmeehhjfcciiaa
