/-
  New, Put of a cache.
-/
import Derived.Test.YtdjebcfpodfhhaaChG
namespace Go.Proofs.Ytdjebcfpodfhhaa
open Go Go.RowKit Go.Maps Go.WideMaps

/-- The blocks of a cache that has just been made at n0. -/
def newA (n0 : Nat) : Nat → Prop := fun k => k = n0 ∨ k = n0 + 2 ∨ k = n0 + 3
set_option maxRecDepth 100000 in
theorem newCa_mk {w w1 : World} {room : Int} (hb : Below (w.heap.size + 1) (w.alloc (.map #[] 0)) w1) (hs : w1.heap.size = w.heap.size + 3)
    (hl : w1.heap[w.heap.size + 2]? = some (.cells #[.string ⟨#[]⟩, .int .i64 0, .slice none 0 0, ptr (w.heap.size + 2), ptr (w.heap.size + 2)] 81 (0, 0))) :
    CaAt (newA w.heap.size) (fun _ => False) (w1.alloc (.cells #[ptr (w.heap.size + 3), .int .i64 room, .map (some w.heap.size), ptr (w.heap.size + 2), .int .i64 0, .int .i64 0, .int .i64 0] 67)) (w.heap.size + 3) w.heap.size (w.heap.size + 2) room 0 0 0 0 [] := by
  have hn : (w1.alloc (.cells #[ptr (w.heap.size + 3), .int .i64 room, .map (some w.heap.size), ptr (w.heap.size + 2), .int .i64 0, .int .i64 0, .int .i64 0] 67)).heap[w.heap.size + 3]? = some (.cells #[ptr (w.heap.size + 3), .int .i64 room, .map (some w.heap.size), ptr (w.heap.size + 2), .int .i64 0, .int .i64 0, .int .i64 0] 67 (0, 0)) := by
    have := heap_alloc_new w1 (.cells #[ptr (w.heap.size + 3), .int .i64 room, .map (some w.heap.size), ptr (w.heap.size + 2), .int .i64 0, .int .i64 0, .int .i64 0] 67)
    rw [hs] at this
    exact this
  have hp : (w1.alloc (.cells #[ptr (w.heap.size + 3), .int .i64 room, .map (some w.heap.size), ptr (w.heap.size + 2), .int .i64 0, .int .i64 0, .int .i64 0] 67)).heap[w.heap.size + 2]? = some (.cells #[.string ⟨#[]⟩, .int .i64 0, .slice none 0 0, ptr (w.heap.size + 2), ptr (w.heap.size + 2)] 81 (0, 0)) :=
    (Below.heap_alloc _ _ _ (by omega)).trans hl
  have hm : MapAt (w1.alloc (.cells #[ptr (w.heap.size + 3), .int .i64 room, .map (some w.heap.size), ptr (w.heap.size + 2), .int .i64 0, .int .i64 0, .int .i64 0] 67)) Try.prog 33 w.heap.size 0 (.map []) :=
    ((MapAt.made w Try.prog 33).below hb (by omega)).alloc _
  have hsz : (w1.alloc (.cells #[ptr (w.heap.size + 3), .int .i64 room, .map (some w.heap.size), ptr (w.heap.size + 2), .int .i64 0, .int .i64 0, .int .i64 0] 67)).heap.size = w.heap.size + 4 := by simp [hs]
  generalize w1.alloc (.cells #[ptr (w.heap.size + 3), .int .i64 room, .map (some w.heap.size), ptr (w.heap.size + 2), .int .i64 0, .int .i64 0, .int .i64 0] 67) = W at *
  refine ⟨fun k hk => ?_, fun k hk => hk.elim, fun k _ hk => hk, ⟨.inr (.inr rfl), .inl rfl, .inr (.inl rfl), fun x hx => by cases hx⟩, ?_, ?_, ⟨_, hn, rfl⟩, fun b hb => ?_, ?_, fun x hx => (by cases hx), fun x hx => (by cases hx), ⟨_, hm, ⟨fun x hx => (by cases hx), fun kl hk => ?_, rfl⟩⟩, fun x hx => (by cases hx), List.nodup_nil⟩
  · rcases hk with rfl | rfl | rfl <;> omega
  · simp
  · refine ⟨?_, ?_, ?_, ?_, ?_, ?_, ?_⟩ <;> exact (cell_of_row W _ _ _ _ (0, 0) hn).trans (by simp)
  · obtain rfl : b = w.heap.size + 2 := by simpa using hb
    exact ⟨_, hp, rfl⟩
  · refine ⟨⟨?_, ?_⟩, trivial⟩ <;> exact (cell_of_row W _ _ _ _ (0, 0) hp).trans (by simp)
  · simp [Maps.has] at hk
set_option maxRecDepth 100000 in
theorem new_any (w : World) (room : Int) (h1 : 0 ≤ room) (h2 : room ≤ 1024) : Calls Try.prog 8 #[.int .i64 room] w fun e w' => e = .returned (.tuple #[ptr (w.heap.size + 3), .int .i64 0]) ∧ CaAt (newA w.heap.size) (fun _ => False) w' (w.heap.size + 3) w.heap.size (w.heap.size + 2) room 0 0 0 0 [] ∧ Below w.heap.size w w' := by
  have hmm := @run_makeMap Try.prog
  have h1' : ¬ room < 0 := by omega
  have h2' : ¬ (1024 : Int) < room := by omega
  go_enter Try.func8, Try.ntmps8
  go_wp2_with fail
  refine (emptyList_any _).mono ?_
  rintro e w1 ⟨rfl, hb, hs, hl⟩
  have HB := Lib.hid (show Below (w.heap.size + 1) (w.alloc (.map #[] 0)) w1 from by simpa using hb)
  have HS : w1.heap.size = w.heap.size + 3 := by simpa using hs
  have HL := Lib.hid (show w1.heap[w.heap.size + 2]? = _ from by simpa using hl)
  clear hb hs hl
  go_wp2_with fail
  go_ret2
  exact ⟨rfl, newCa_mk HB.out HS HL.out, ((((Below.refl w.heap.size w).alloc (Nat.le_refl _) _).trans (HB.out.mono (by omega))).alloc (by omega) _)⟩
section
variable {A B : Nat → Prop} {w w0 w1 w2 w3 : World} {c M s n : Nat} {room h m g : Int} {N : List Nd}
/-- A new page: it comes to the front. -/
theorem CaAt.putted (H : CaAt A B w0 c M s room h m g n N) {v : Value} {r : ByteArray} {i : Int} {E : List (List V3 × Int)} (b1 : Below w0.heap.size w0 w1) (he : EntS (fun k => w0.heap.size ≤ k) w1 v E)
    (b2 : Below w1.heap.size w1 w2) (hs2 : w2.heap.size = w1.heap.size + 1) (hp : w2.heap[w1.heap.size]? = some (.cells #[.string r, .int .i64 i, v, .pointer none, .pointer none] 81 (0, 0)))
    (hk0 : KeyOk r i) (hno : ∀ y ∈ N, y.key ≠ pgK r i) {D : DataW Value} (hk : KeysOf D N) (ht : Tidy D) (hmt : w2.mapTurned w3 M) (hD : MapAt w3 Try.prog 33 M (n + 1) (D.put (pgK r i) (.held (ptr w1.heap.size)))) :
    ∃ f, Bk w3 s 81 5 ∧ Bk w3 f 81 5 ∧ Bk w3 w1.heap.size 81 5 ∧ w1.heap.size ≠ s ∧ w1.heap.size ≠ f ∧ w3.cell? ⟨s, 4, none⟩ = some (ptr f) ∧ w3.cell? ⟨c, 3, none⟩ = some (ptr s) ∧
      ∀ w4, LeadW w3 w4 s f w1.heap.size → CaAt (fun k => A k ∨ k = w1.heap.size) (fun k => B k ∨ (w0.heap.size ≤ k ∧ k < w1.heap.size)) w4 c M s room h m g (n + 1) (⟨w1.heap.size, r, i, v, E⟩ :: N) ∧ Upd (allOf A) w0 w4 := by
  have H2 := H.below (b1.trans (b2.mono b1.size))
  have u3 : Upd (fun b _ => b = M) w2 w3 := (Upd.refl _ w2).turned hmt (fun _ _ => rfl)
  obtain ⟨a1, a2, a3, a4⟩ := H.inA
  have nP := H.nodupP
  have lo : w0.heap.size ≤ w1.heap.size := b1.size
  have hM : M ∉ s :: N.map (·.b) := fun hh => (List.nodup_cons.1 H.nodup).1 (List.mem_cons_of_mem _ hh)
  have hc : c ∉ s :: N.map (·.b) := (List.nodup_cons.1 (List.nodup_cons.1 H.nodup).2).1
  have hcM : M ≠ c := fun e => (List.nodup_cons.1 H.nodup).1 (by simp [e])
  have aP : ∀ k ∈ s :: N.map (·.b), A k := fun k hk => by
    rcases List.mem_cons.1 hk with rfl | hk
    · exact a3
    · obtain ⟨y, hy, rfl⟩ := List.mem_map.1 hk
      exact a4 y hy
  have ltA : ∀ k, A k → k < w1.heap.size := fun k hk => Nat.lt_of_lt_of_le (H.ltA k hk) lo
  have keep : ∀ k o, k < w2.heap.size → k ≠ M → w3.cell? ⟨k, o, none⟩ = w2.cell? ⟨k, o, none⟩ := fun k o hk hne => u3.cell k o hk hne
  have neM : ∀ k ∈ s :: N.map (·.b), k ≠ M := fun k hk e => hM (e ▸ hk)
  have L3 : Links w3 (s :: (N.map (·.b) ++ [s])) := by
    have kk : ∀ k ∈ s :: N.map (·.b), ∀ o, w3.cell? ⟨k, o, none⟩ = w2.cell? ⟨k, o, none⟩ := fun k hk o => keep k o (H2.kindP k hk).lt (neM k hk)
    refine H2.links.frame (fun a ha => kk a ?_ 4) (fun a ha => kk a ?_ 3)
    · have : (s :: (N.map (·.b) ++ [s])).dropLast = s :: N.map (·.b) := by rw [← List.cons_append, List.dropLast_concat]
      rw [this] at ha
      exact ha
    · have ha' : a ∈ N.map (·.b) ++ [s] := ha
      simp only [List.mem_append, List.mem_singleton] at ha'
      rcases ha' with h | h
      · exact List.mem_cons_of_mem _ h
      · simp [h]
  have kP3 : ∀ k ∈ s :: N.map (·.b), Bk w3 k 81 5 := fun k hk => u3.kind _ _ _ (H2.kindP k hk)
  have pne : w1.heap.size ∉ s :: N.map (·.b) := fun hh => by have := ltA _ (aP _ hh); omega
  have pM : w1.heap.size ≠ M := fun e => by have := ltA _ a2; omega
  obtain ⟨f, hf, hf4, hfin⟩ := links_front L3 nP pne (fun k hk => (kP3 k hk).lt)
  have inF : f ∈ s :: N.map (·.b) := by simpa using hf
  have kp : Bk w3 w1.heap.size 81 5 := u3.kind _ _ _ ⟨_, hp, rfl⟩
  refine ⟨f, kP3 s List.mem_cons_self, kP3 f inF, kp, fun e => pne (by rw [e]; simp), fun e => pne (e ▸ inF), hf4, (keep c 3 H2.kindC.lt hcM.symm).trans H2.cells.2.2.2.1, fun w4 hd => ?_⟩
  have hu : Upd (fun k o => k = M ∨ ((o = 3 ∨ o = 4) ∧ (k = w1.heap.size ∨ k ∈ s :: N.map (·.b)))) w2 w4 := (u3.mono (fun _ _ _ e => .inl e)).then hd.upd (fun k o _ e => by
    rcases e with ⟨rfl, e⟩ | ⟨rfl, rfl⟩ | ⟨rfl, rfl⟩
    · exact .inr ⟨e, .inl rfl⟩
    · exact .inr ⟨.inr rfl, .inr List.mem_cons_self⟩
    · exact .inr ⟨.inl rfl, .inr inF⟩)
  have cell : ∀ b o, b < w2.heap.size → (b ≠ M) → (¬ (o = 3 ∨ o = 4) ∨ (b ≠ w1.heap.size ∧ b ∉ s :: N.map (·.b))) → w4.cell? ⟨b, o, none⟩ = w2.cell? ⟨b, o, none⟩ := fun b o hb hM ho => hu.cell b o hb (fun e => by
    rcases e with e | ⟨e1, e2⟩
    · exact hM e
    · exact ho.elim (fun h => h e1) (fun h => e2.elim h.1 h.2))
  have hsz := hu.size
  refine ⟨⟨fun k hk => ?_, fun k hk => ?_, fun k hA hB => ?_, ⟨.inl a1, .inl a2, .inl a3, fun x hx => ?_⟩, ?_, ?_, hu.kind _ _ _ H2.kindC, fun b hb => ?_, hfin w4 hd, fun x hx => ?_, fun x hx => ?_, ⟨_, hD.upd hd.upd (fun o e => ?_), hk.put (x := ⟨w1.heap.size, r, i, v, E⟩) ht hno⟩, fun x hx => ?_, ?_⟩, ?_⟩
  · rcases hk with hk | rfl
    · have := ltA k hk; omega
    · omega
  · rcases hk with hk | hk
    · have := H.ltB k hk; omega
    · omega
  · rcases hA with hA | rfl
    · rcases hB with hB | hB
      · exact H.apart k hA hB
      · have := H.ltA k hA; omega
    · rcases hB with hB | hB
      · have := H.ltB _ hB; omega
      · omega
  · rcases List.mem_cons.1 hx with rfl | hx
    · exact .inr rfl
    · exact .inl (a4 x hx)
  · have e : (M :: c :: w1.heap.size :: s :: N.map (·.b)).Perm (M :: c :: s :: w1.heap.size :: N.map (·.b)) := ((List.Perm.swap _ _ _).cons _).cons _
    show (M :: c :: s :: w1.heap.size :: N.map (·.b)).Nodup
    rw [← e.nodup_iff]
    have e2 : (w1.heap.size :: M :: c :: s :: N.map (·.b)).Perm (M :: c :: w1.heap.size :: s :: N.map (·.b)) := (List.Perm.swap _ _ _).trans ((List.Perm.swap _ _ _).cons _)
    rw [← e2.nodup_iff]
    refine List.nodup_cons.2 ⟨fun hh => ?_, H.nodup⟩
    rcases List.mem_cons.1 hh with hh | hh
    · exact pM hh
    · rcases List.mem_cons.1 hh with hh | hh
      · have := ltA _ a1; omega
      · exact pne hh
  · have cc : ∀ o, w4.cell? ⟨c, o, none⟩ = w2.cell? ⟨c, o, none⟩ := fun o => cell c o H2.kindC.lt hcM.symm (.inr ⟨fun e => by have := ltA _ a1; omega, hc⟩)
    simp only [cc]
    exact H2.cells
  · rcases List.mem_cons.1 hb with rfl | hb
    · exact hu.kind _ _ _ (H2.kindP _ List.mem_cons_self)
    · rw [List.map_cons] at hb
      rcases List.mem_cons.1 hb with rfl | hb
      · exact hu.kind _ _ _ ⟨_, hp, rfl⟩
      · exact hu.kind _ _ _ (H2.kindP b (List.mem_cons_of_mem _ hb))
  · rcases List.mem_cons.1 hx with rfl | hx
    · have pc : ∀ o, o < 3 → w4.cell? ⟨w1.heap.size, o, none⟩ = w2.cell? ⟨w1.heap.size, o, none⟩ := fun o ho => cell _ o (by omega) pM (.inl (by omega))
      rw [pc 0 (by decide), pc 1 (by decide), pc 2 (by decide)]
      refine ⟨?_, ?_, ?_⟩ <;> exact (cell_of_row w2 _ _ _ _ (0, 0) hp).trans (by simp)
    · have hm := List.mem_cons_of_mem s (List.mem_map_of_mem (f := (·.b)) hx)
      have ce : ∀ o, o < 3 → w4.cell? ⟨x.b, o, none⟩ = w2.cell? ⟨x.b, o, none⟩ := fun o ho => cell x.b o (H2.kindP _ hm).lt (neM _ hm) (.inl (by omega))
      rw [ce 0 (by decide), ce 1 (by decide), ce 2 (by decide)]
      exact H2.els x hx
  · have free : ∀ k o, k < w2.heap.size → ¬ A k → k ≠ w1.heap.size → w4.cell? ⟨k, o, none⟩ = w2.cell? ⟨k, o, none⟩ := fun k o hk hA hp => cell k o hk (fun e => hA (e ▸ a2)) (.inr ⟨hp, fun e => hA (aP k e)⟩)
    rcases List.mem_cons.1 hx with rfl | hx
    · refine he.inside.same (fun k hk => .inr hk) (fun k o hk => ?_)
      rw [free k o (by omega) (fun e => by have := H.ltA k e; omega) (by omega)]
      exact b2.cell (p := ⟨k, o, none⟩) hk.2
    · refine (H2.ents x hx).same (fun k hk => .inl hk) (fun k o hk => free k o (H2.ltB k hk) (fun e => H.apart k e hk) (fun e => by have := H.ltB k hk; omega))
  · rcases e with ⟨e, -⟩ | ⟨e, -⟩ | ⟨e, -⟩
    · exact pM e.symm
    · exact neM s List.mem_cons_self e.symm
    · exact neM f inF e.symm
  · rcases List.mem_cons.1 hx with rfl | hx
    · exact hk0
    · exact H.oks x hx
  · rw [List.map_cons]
    refine List.nodup_cons.2 ⟨fun hh => ?_, H.keys⟩
    obtain ⟨y, hy, e⟩ := List.mem_map.1 hh
    exact hno y hy e
  · refine ((Upd.of_below b1).trans ((Upd.of_below (b2.mono (Nat.le_refl _))).mono (C := fun _ _ => False) (fun _ _ _ e => e.elim))).then hu (fun k o hk e => ?_)
    rcases e with rfl | ⟨-, rfl | e⟩
    · exact a2
    · omega
    · exact aP k e
/-- What Put leaves. -/
def PutEnd (A B : Nat → Prop) (w : World) (c M s : Nat) (room h m g : Int) (n : Nat) (r : ByteArray) (i : Int) (E : List (List V3 × Int)) (N : List Nd) (e : Ending) (w' : World) : Prop :=
  e = .returned (.tuple #[]) ∧ ∃ p v, w.heap.size ≤ p ∧ CaAt (fun k => A k ∨ k = p) (fun k => B k ∨ (w.heap.size ≤ k ∧ k < p)) w' c M s room h m g (n + 1) (⟨p, r, i, v, E⟩ :: N) ∧ Upd (allOf A) w w'
end
end Go.Proofs.Ytdjebcfpodfhhaa
