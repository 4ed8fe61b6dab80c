/-
  few: at most sixty of the tuples that have at most twenty values.
-/
import Derived.Test.YtaogfgohchpnoaaDoorTrR
import Derived.Maps.AppendAt
namespace Go.Proofs.YtaogfgohchpnoaaDoor
open Go Go.RowKit

/-- An append of one tuple to a row of one's own. -/
theorem wpList_appOne {ops : Array Oper} {rest : List Oper} {o : Oper} {a : Act} {w : World} {Q : Exit → Act → World → Prop} (hgd : o.guard = none) (s x : Operand)
    (ho : o.op = .call { callee := .builtin .append, args := #[s, x], argTypes := #[22, 22] })
    (B : Nat) (v : Value) (xs : List Value) (u : Value) (hs : a.eval s = v) (hown : w.ownsRow B 33 1 v xs.length xs) (ad : Addr) (c : Nat) (hx : a.eval x = .slice (some ad) 1 c) (hc : ∀ j y, [u][j]? = some y → w.cell? (ad.add j) = some y)
    (h1 : u.oneCell' = true) (hl : xs.length ≤ 1000000) (hB : B ≤ w.heap.size)
    (h : ∀ v' w', w'.ownsRow B 33 1 v' (xs ++ [u]).length (xs ++ [u]) → w.grownBy w' v.ownBlock → wpList Tryd.prog ops Q rest (a.put o.dst v') w') :
    wpList Tryd.prog ops Q (o :: rest) a w := by
  obtain ⟨i0, hi, hz0, hz1, hz2⟩ := info_parts Tryd.infoTup
  refine wpList_append_own_at w hgd s x 22 ho B 33 i0 (.slice none 0 0) 1 24 Tryd.underlying22 hi hz0 hz1 hz2 rfl (by decide) v xs.length xs hs hown ad 1 c [u] hx rfl hc (fun y hy => by simp at hy; subst hy; exact h1) (by unfold maxLen; omega) (by omega) hB fun v' w' r1 r2 _ _ => h v' w' (by simpa using r1) r2
/-- What few leaves. -/
def FewEnd (w : World) (L : List (Value × List V3)) (e : Ending) (w' : World) : Prop :=
  ∃ (v : Value) (P : List (Value × List V3)), e = .returned v ∧ w'.ownsRow w.heap.size 33 1 v P.length (P.map (·.1)) ∧ P.length ≤ 60 ∧ (∀ x ∈ P, x ∈ L ∧ x.2.length ≤ 20) ∧ Below w.heap.size w w'
set_option maxHeartbeats 1000000 in
set_option maxRecDepth 100000 in
theorem few_any (w : World) (v : Value) (L : List (Value × List V3)) (h : ArgR w v L) :
    Calls Tryd.prog 7 #[v] w (FewEnd w L) := by
  obtain ⟨i0, hi, hz0, hz1, hz2⟩ := info_parts Tryd.infoTup
  have HL := Lib.hid h
  obtain ⟨pa, cap, rfl, hlen, -, -⟩ := h
  unfold maxLen at hlen
  go_enter Tryd.func7, Tryd.ntmps7
  go_wp2_with fail
  go_loopw [3, 4] (fun o i wr => ∃ (k : Nat) (P : List (Value × List V3)), k ≤ L.length ∧ i = .int .i64 k ∧ (∃ q c, o = .slice q P.length c) ∧ P.length ≤ 60 ∧ Hid (wr.ownsRow w.heap.size 33 1 o P.length (P.map (·.1))) ∧ Hid (∀ x ∈ P, x ∈ L ∧ x.2.length ≤ 20) ∧ Hid (Below w.heap.size w wr)) (fun _ i _ => L.length - (intOf i).toNat)
  case atStart => exact ⟨0, [], Nat.zero_le _, rfl, ⟨_, _, rfl⟩, by simp, Lib.hid (World.ownsRow_nil _ _ _ _), Lib.hid (fun x hx => by cases hx), Lib.hid (Below.refl _ _)⟩
  case round =>
    obtain ⟨k, P, hk, rfl, ⟨q, c, rfl⟩, hP60, hown, hmem, hB⟩ := hrel
    have h0 : (0 : Int) ≤ (k : Int) := by omega
    by_cases hlt : k < L.length
    · have hlt' : (k : Int) < (L.length : Int) := by omega
      by_cases h60 : P.length < 60
      · have h60' : (P.length : Int) < 60 := by omega
        obtain ⟨b, off, rfl, hb, hr⟩ : ∃ b off, pa = some ⟨b, off, none⟩ ∧ b < w.heap.size ∧ RowAt w b off L := by
          obtain ⟨_, _, e, -, h, -⟩ := HL.out
          rcases h with h | ⟨b, off, e', h1, h2⟩
          · rw [h] at hlt; simp at hlt
          · injection e with e1
            exact ⟨b, off, e1.trans e', h1, h2⟩
        have hx0 : wr.cell? ⟨b, off + k, none⟩ = some L[k].1 := (hB.out.cell (p := ⟨b, off + k, none⟩) hb).trans (hr k hlt)
        obtain ⟨T, hT⟩ : ∃ T, T = L[k].2 := ⟨_, rfl⟩
        have HA := Lib.hid (by obtain ⟨_, _, -, -, -, ha⟩ := HL.out; exact ha L[k] (List.getElem_mem hlt))
        obtain ⟨qa, ca, hv, -⟩ := HA.out
        rw [hv, ← hT] at hx0
        have HM : Hid ((Value.slice qa T.length ca, T) ∈ L) := Lib.hid (by
          have := List.getElem_mem hlt
          rwa [show L[k] = (Value.slice qa T.length ca, T) from Prod.ext (by rw [hv, hT]) hT.symm] at this)
        clear hv hT hr HA
        by_cases h20 : T.length ≤ 20
        · have h20' : (T.length : Int) ≤ 20 := by omega
          have hsz := hB.out.size
          have HO : Hid ((wr.alloc (.cells #[.slice qa T.length ca] 33)).ownsRow w.heap.size 33 1 (.slice q P.length c) (P.map (·.1)).length (P.map (·.1))) := Lib.hid (by rw [List.length_map]; exact World.ownsRow.alloc hown.out _)
          go_wp2_with (at_builtin; refine wpList_appOne rfl (.tmp 22) (.tmp 27) rfl w.heap.size (.slice q P.length c) _ (.slice qa T.length ca) rfl HO.out ⟨wr.heap.size, 0, none⟩ 1 rfl (cell_one_new _ _ _) rfl (by rw [List.length_map]; omega) (by rw [World.size_alloc]; omega) ?_; intro v5 w5 r1 r2)
          go_roundw
          case rel =>
            obtain ⟨g, c5, rfl⟩ := own_form r1 (by simp)
            refine ⟨k + 1, P ++ [(Value.slice qa T.length ca, T)], by omega, by go_num, ⟨some ⟨g, 0, none⟩, c5, by simp⟩, by simp; omega, Lib.hid (by simpa using r1), Lib.hid (fun x hx => ?_), Lib.hid ((hB.out.alloc hB.out.size _).grown r2 (by rw [World.size_alloc]; omega) (fun k hk => (hown.out.lt k hk).1))⟩
            rcases List.mem_append.1 hx with h | h
            · exact hmem.out x h
            · obtain rfl := List.mem_singleton.1 h
              exact ⟨HM.out, h20⟩
          case measure => simp [intOf]; omega
        · have h20' : (20 : Int) < (T.length : Int) := by omega
          go_wp2_with fail
          go_roundw
          case rel => exact ⟨k + 1, P, by omega, by go_num, ⟨_, _, rfl⟩, hP60, hown, hmem, hB⟩
          case measure => simp [intOf]; omega
      · have h60' : (60 : Int) ≤ (P.length : Int) := by omega
        go_wp2_with fail
        go_ret
        exact ⟨_, P, rfl, hown.out, hP60, hmem.out, hB.out⟩
    · have hlt' : (L.length : Int) ≤ (k : Int) := by omega
      obtain rfl : k = L.length := by omega
      go_wp2_with fail
      go_ret
      exact ⟨_, P, rfl, hown.out, hP60, hmem.out, hB.out⟩
end Go.Proofs.YtaogfgohchpnoaaDoor
