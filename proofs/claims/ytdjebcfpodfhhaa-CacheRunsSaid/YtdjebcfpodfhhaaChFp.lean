/-
  Plain facts on the keys that were put last; rows of keys that a law builds; bytes that an argument brings.
-/
import Derived.Test.YtdjebcfpodfhhaaChV
import Derived.Test.YtdjebcfpodfhhaaChY
import Derived.OwnWalk
namespace Go.Proofs.Ytdjebcfpodfhhaa
open Go Go.RowKit Go.Maps Go.WideMaps

abbrev Ky := ByteArray × Int
def neK (k x : Ky) : Bool := !eqK x.1 x.2 k.1 k.2
theorem neK_iff {k x : Ky} : neK k x = true ↔ x ≠ k := by
  unfold neK
  rw [Bool.not_eq_true', eqK_false]
  constructor
  · rintro h rfl; exact h ⟨rfl, rfl⟩
  · intro h e; exact h (Prod.ext e.1 e.2)
theorem neK_self (k : Ky) : neK k k = false := by simp [neK, eqK_self]
/-- The keys that were put last, one more put. -/
def freshK (k : Ky) (F : List Ky) : List Ky := k :: F.filter (neK k)
theorem freshK_nodup {k : Ky} {F : List Ky} (h : F.Nodup) : (freshK k F).Nodup :=
  List.nodup_cons.2 ⟨fun hh => neK_iff.1 (List.mem_filter.1 hh).2 rfl, h.filter _⟩
theorem freshK_len (k : Ky) (F : List Ky) : (freshK k F).length ≤ F.length + 1 := by
  simp only [freshK, List.length_cons]
  have := List.length_filter_le (neK k) F
  omega
theorem filter_len {k : Ky} : ∀ {F : List Ky}, F.Nodup → F.length ≤ (F.filter (neK k)).length + 1
  | [], _ => by simp
  | a :: F, h => by
    obtain ⟨h1, h2⟩ := List.nodup_cons.1 h
    rw [List.filter_cons]
    by_cases e : a = k
    · subst e
      rw [neK_self, if_neg (by simp), List.filter_eq_self.2 (fun x hx => (neK_iff (k := a) (x := x)).2 (fun e => h1 (by rw [← e]; exact hx)))]
      simp
    · rw [if_pos (neK_iff.2 e)]
      have := filter_len (k := k) h2
      simp only [List.length_cons]
      omega
theorem fresh_take (k : Ky) {F : List Ky} (h : F.Nodup) (n : Nat) : (k :: (F.take n).filter (neK k)).take n = (freshK k F).take n := by
  cases n with
  | zero => rfl
  | succ n =>
    unfold freshK
    rw [List.take_succ_cons, List.take_succ_cons]
    congr 1
    have e : F = F.take (n + 1) ++ F.drop (n + 1) := (List.take_append_drop _ _).symm
    have e2 : F.filter (neK k) = (F.take (n + 1)).filter (neK k) ++ (F.drop (n + 1)).filter (neK k) := by rw [← List.filter_append, List.take_append_drop]
    rw [e2]
    by_cases hl : n + 1 ≤ F.length
    · have h1 := filter_len (k := k) (h.sublist (List.take_sublist (n + 1) F))
      rw [List.length_take] at h1
      rw [List.take_append_of_le_length (by omega)]
    · rw [List.drop_of_length_le (by omega)]
      simp
theorem keysL_rest (r : ByteArray) (i : Int) (L : List Pg) : keysL (restL r i L) = (keysL L).filter (neK (r, i)) := by
  unfold keysL restL
  rw [List.filter_map]
  rfl
theorem keysL_put (n : Nat) (r : ByteArray) (i : Int) (E : List (List V3 × Int)) (L : List Pg) : keysL (putL (n : Int) r i E L) = ((r, i) :: (keysL L).filter (neK (r, i))).take n := by
  rw [← keysL_rest]
  unfold keysL putL
  rw [List.map_take]
  rfl
theorem fresh_step (n : Nat) (r : ByteArray) (i : Int) (E : List (List V3 × Int)) {L : List Pg} {F : List Ky} (h : keysL L = F.take n) (hF : F.Nodup) : keysL (putL (n : Int) r i E L) = (freshK (r, i) F).take n := by
  rw [keysL_put, h, fresh_take _ hF]
theorem putG_le {room g : Int} {r : ByteArray} {i : Int} {L : List Pg} : g ≤ putG room r i g L ∧ putG room r i g L ≤ g + 1 := by
  unfold putG
  split
  · omega
  · split <;> omega
/-- A row of keys in a block from lo on. -/
def KeyB (lo : Nat) (W : World) (v : Value) (K : List Ky) : Prop := ∃ p cap, v = .slice p K.length cap ∧ (K.length ≤ 2000 ∧ K.length ≤ cap) ∧ (K = [] ∨ ∃ b off, p = some ⟨b, off, none⟩ ∧ lo ≤ b ∧ b < W.heap.size ∧ CellsK W b off K)
theorem KeyB.in_ {lo : Nat} {W : World} {v : Value} {K : List Ky} (h : KeyB lo W v K) : KeyIn W v K := by
  obtain ⟨p, cap, rfl, hl, h⟩ := h
  refine ⟨p, cap, rfl, hl.1, ?_⟩
  rcases h with h | ⟨b, off, rfl, -, hlt, hc⟩
  · exact .inl h
  · exact .inr ⟨b, off, rfl, hlt, hc⟩
theorem KeyB.upd {lo : Nat} {W W' : World} {v : Value} {K : List Ky} (h : KeyB lo W v K) {C : Nat → Nat → Prop} (hu : Upd C W W') (hC : ∀ k o, lo ≤ k → ¬ C k o) : KeyB lo W' v K := by
  obtain ⟨p, cap, rfl, hl, h⟩ := h
  refine ⟨p, cap, rfl, hl, ?_⟩
  rcases h with h | ⟨b, off, rfl, hlo, hlt, hc⟩
  · exact .inl h
  · exact .inr ⟨b, off, rfl, hlo, Nat.lt_of_lt_of_le hlt hu.size, fun j k hj => ⟨(hu.cell b _ hlt (hC b _ hlo)).trans (hc j k hj).1, (hu.cell b _ hlt (hC b _ hlo)).trans (hc j k hj).2⟩⟩
theorem KeyB.below {lo : Nat} {W W' : World} {v : Value} {K : List Ky} (h : KeyB lo W v K) (hb : Below W.heap.size W W') : KeyB lo W' v K := h.upd (Upd.of_below (C := fun _ _ => False) hb) (fun _ _ _ e => e)
theorem KeyB.own {W : World} {B : Nat} {v : Value} {K : List Ky} (h : W.ownsRow B 33 2 v K.length (rowK K)) (hl : K.length ≤ 2000) : KeyB B W v K := by
  rcases Nat.eq_zero_or_pos K.length with h0 | h0
  · obtain rfl := List.eq_nil_of_length_eq_zero h0
    rcases h.2 with ⟨rfl, -⟩ | ⟨g, cap, cur, rfl, -⟩
    · exact ⟨none, 0, rfl, by simp, .inl rfl⟩
    · exact ⟨_, cap, rfl, by simp, .inl rfl⟩
  · obtain ⟨g, cap, rfl, hlo, hg⟩ := World.ownsRow.form h h0
    have hcap : K.length ≤ cap := by
      rcases h.2 with ⟨e, -⟩ | ⟨g', cap', cur, e, -, -, hc, -⟩
      · cases e
      · injection e with e1 e2 e3
        omega
    refine ⟨_, cap, rfl, ⟨hl, hcap⟩, .inr ⟨g, 0, rfl, hlo, hg, fun j k hj => ?_⟩⟩
    obtain ⟨q1, q2⟩ := rowK_at K j k hj
    have c1 := World.ownsRow.cells h (g := g) rfl _ _ q1
    have c2 := World.ownsRow.cells h (g := g) rfl _ _ q2
    rw [addr_add] at c1 c2
    exact ⟨c1, c2⟩
theorem KeyB.some {lo : Nat} {W : World} {v : Value} {K : List Ky} (h : KeyB lo W v K) {j : Nat} (hj : j < K.length) : ∃ b off cap, v = .slice (some ⟨b, off, none⟩) K.length cap ∧ b < W.heap.size ∧ CellsK W b off K := h.in_.some hj
/-- An append of one key to a row of the law's own. -/
theorem wpList_appK {ops : Array Oper} {rest : List Oper} {o : Oper} {a : Act} {w : World} {Q : Exit → Act → World → Prop} (hgd : o.guard = none) (s x : Operand)
    (ho : o.op = .call { callee := .builtin .append, args := #[s, x], argTypes := #[39, 39] })
    (B : Nat) (v : Value) (K : List Ky) (k : Ky) (ad : Addr) (hs : a.eval s = v) (hx : a.eval x = .slice (some ad) 1 1) (hown : w.ownsRow B 33 2 v K.length (rowK K)) (hl : K.length ≤ 1000) (hB : B ≤ w.heap.size)
    (hc0 : w.cell? (ad.add 0) = some (.string k.1)) (hc1 : w.cell? (ad.add 1) = some (.int .i64 k.2))
    (h : ∀ p' cap' w', w'.ownsRow B 33 2 (.slice p' (K.length + 1) cap') (K ++ [k]).length (rowK (K ++ [k])) → w.grownBy w' v.ownBlock → wpList Try.prog ops Q rest (a.put o.dst (.slice p' (K.length + 1) cap')) w') : wpList Try.prog ops Q (o :: rest) a w := by
  refine wpList_plain hgd fun K' hK => ?_
  obtain ⟨i0, hi, hz0, hz1, hz2⟩ := info_parts infoPk
  obtain ⟨v', w', hr, hown', hg, -, -⟩ := run_append_own_at (P := Try.prog) w B 39 o.type 33 i0 (.agg #[.string ⟨#[]⟩, .int .i64 0]) 2 24 Try.underlying39 hi hz0 hz1 hz2 rfl (by decide) v _ _ hown ad 1 1 [.string k.1, .int .i64 k.2]
    rfl (fun j u hu => by
      match j, hu with
      | 0, hu => cases hu; exact hc0
      | 1, hu => cases hu; exact hc1) (fun u hu => by
      simp only [List.mem_cons, List.not_mem_nil, or_false] at hu
      rcases hu with rfl | rfl <;> rfl) (by unfold maxLen; omega) (by omega) hB
  unfold Oper.wp execOp
  simp only [ho, resolve, invoke, builtin, Sem.run_bind, Sem.run_pure, Result.andThen_ok, List.map_toArray, List.map_cons, List.map_nil, hs, hx, hr]
  have h2 : w'.ownsRow B 33 2 v' (K ++ [k]).length (rowK (K ++ [k])) := by
    rw [List.length_append, rowK_snoc]
    exact hown'
  obtain ⟨p', cap', e⟩ : ∃ p' cap', v' = .slice p' (K.length + 1) cap' := by
    obtain ⟨g, cap, e, -⟩ := World.ownsRow.form h2 (by simp)
    rw [List.length_append, List.length_singleton] at e
    exact ⟨_, _, e⟩
  subst e
  exact hK _ _ (h p' cap' w' h2 hg)
/-- Bytes that an argument brings. -/
def ByA (W : World) (v : Value) (l : List Int) : Prop := ∃ p cap, v = .slice p l.length cap ∧ l.length ≤ maxLen ∧ (l = [] ∨ ∃ b off, p = some ⟨b, off, none⟩ ∧ b < W.heap.size ∧ ∀ j k, l[j]? = some k → W.cell? ⟨b, off + j, none⟩ = some (.int .u8 k)) ∧ ∀ k ∈ l, 0 ≤ k ∧ k ≤ 255
theorem ByA.below {W W' : World} {v : Value} {l : List Int} (h : ByA W v l) (hb : Below W.heap.size W W') : ByA W' v l := by
  obtain ⟨p, cap, rfl, h1, h2, h3⟩ := h
  refine ⟨p, cap, rfl, h1, ?_, h3⟩
  rcases h2 with h | ⟨b, off, e, hlt, hc⟩
  · exact .inl h
  · exact .inr ⟨b, off, e, Nat.lt_of_lt_of_le hlt hb.size, fun j k hj => (hb.cell (p := ⟨b, _, none⟩) hlt).trans (hc j k hj)⟩
end Go.Proofs.Ytdjebcfpodfhhaa
