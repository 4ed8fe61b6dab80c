/-
  Contract of tuple.Text at any tuple.
-/
import Derived.Test.YtdfepeeicbpicaaGreatDoorTtP
import Derived.Test.YtdfepeeicbpicaaGreatDoorTck1
import Derived.Laws.MakeOwn
import Derived.OwnWalk
namespace Go.Proofs.YtdfepeeicbpicaaGreatDoor
open Go Go.RowKit

theorem Tryz.infoStr : (Tryz.prog.info? 9).map (fun i => (i.zero, i.size, i.bytes)) = some (some (.string ⟨#[]⟩), 1, 16) := by kernel_rfl
theorem make_strs (n : Nat) (hn : n ≤ 8) (w : World) : (Instr.makeSlice 34 (.int .i64 (n : Int)) (.int .i64 (n : Int))).run Tryz.prog w = .ok (.slice (some ⟨w.heap.size, 0, none⟩) n n) (w.alloc (.cells (madeCells #[.string ⟨#[]⟩] n) 9)) := by
  obtain ⟨i, hi, hz, hs, hb⟩ := info_parts Tryz.infoStr
  have h := run_make (P := Tryz.prog) w 34 9 i _ Tryz.underlying34 hi hz .i64 .i64 n n (by omega) (Int.le_refl _) (by rw [hb]; omega) (by omega)
  rw [hs, Nat.mul_one] at h
  exact h
/-- A new row of strings holds the first ones. -/
def StrN (w : World) (g n : Nat) (acc : List ByteArray) : Prop := ∃ A : Array Value, w.heap[g]? = some (.cells A 9 (0, 0)) ∧ A.size = n ∧ acc.length ≤ n ∧ ∀ (o : Nat) (x : ByteArray), acc[o]? = some x → A[o]? = some (.string x)
theorem StrN.new (w : World) (n : Nat) : StrN (w.alloc (.cells (madeCells #[.string ⟨#[]⟩] n) 9)) w.heap.size n [] :=
  ⟨_, heap_alloc_new w _, size_madeCells _ _, Nat.zero_le _, fun o u h => by simp at h⟩
theorem StrN.below {w w' : World} {g n : Nat} {acc : List ByteArray} (h : StrN w g n acc) (hb : Below w.heap.size w w') : StrN w' g n acc := by
  obtain ⟨A, h1, h2⟩ := h
  exact ⟨A, (hb.block g (Array.getElem?_eq_some_iff.1 h1).1).trans h1, h2⟩
theorem StrN.put {w : World} {g n : Nat} {acc : List ByteArray} (h : StrN w g n acc) (x : ByteArray) (hlt : acc.length < n) : StrN (w.setCell ⟨g, acc.length, none⟩ (.string x)) g n (acc ++ [x]) := by
  obtain ⟨A, h1, h2, -, h3⟩ := h
  refine ⟨_, Go.heap_setCell_same _ g _ _ _ _ h1, by simp [h2], by simp; omega, fun o u hu => ?_⟩
  rcases Nat.lt_or_ge o acc.length with ho | ho
  · rw [List.getElem?_append_left ho] at hu
    rw [Array.getElem?_setIfInBounds, if_neg (by omega)]
    exact h3 o u hu
  · rw [List.getElem?_append_right ho] at hu
    obtain ⟨d, rfl⟩ : ∃ d, o = acc.length + d := ⟨o - acc.length, by omega⟩
    rw [Nat.add_sub_cancel_left] at hu
    rcases d with _ | d
    · rw [Array.getElem?_setIfInBounds, if_pos (by omega), if_pos (by omega)]
      simpa using hu
    · simp at hu
theorem StrN.cells {w : World} {g n : Nat} {acc : List ByteArray} (h : StrN w g n acc) {o : Nat} (ho : o < n) : (∃ u, w.cell? ⟨g, o, none⟩ = some u) ∧ w.frozen? ⟨g, o, none⟩ = false := by
  obtain ⟨A, h1, h2, -⟩ := h
  exact ⟨⟨A[o]'(by omega), (cell_of_row w g o A _ (0, 0) h1).trans (by simp [h2, ho])⟩, frozen_of_row w g o A _ h1⟩
theorem StrN.at_ {w : World} {g n : Nat} {acc : List ByteArray} (h : StrN w g n acc) {o : Nat} {x : ByteArray} (ho : acc[o]? = some x) : w.cell? ⟨g, o, none⟩ = some (.string x) := by
  obtain ⟨A, h1, -, -, h3⟩ := h
  exact (cell_of_row w g o A _ (0, 0) h1).trans (h3 o x ho)
/-- A value's text, as a string. -/
def strV (v : V3) : ByteArray := textS v.k v.n v.s
theorem strV_list (v : V3) : (strV v).data.toList = textV v := rfl
/-- A tuple's text, as a string. -/
def strT (T : List V3) : ByteArray := ⟨(textT T).toArray⟩
theorem strT_is (T : List V3) (x : ByteArray) (h : x.data.toList = joinT T) : (⟨#[40]⟩ : ByteArray) ++ x ++ (⟨#[41]⟩ : ByteArray) = strT T := by
  have h0 : x.data = (joinT T).toArray := by rw [← h]
  apply ByteArray.ext
  simp [ByteArray.data_append, strT, textT, h0]
theorem strv_len (v : V3) (h : ValV v) : (textV v).length ≤ 1100 := by
  have := textS_size h.1 h.2
  rwa [Lib.size_eq] at this
theorem joinT_len : ∀ T : List V3, (∀ v ∈ T, ValV v) → (joinT T).length ≤ 1102 * T.length
  | [], _ => by simp [joinT]
  | v :: r, h => by
    have h1 := strv_len v (h v List.mem_cons_self)
    have h2 := joinT_len r fun x hx => h x (List.mem_cons_of_mem _ hx)
    rw [joinT_cons, List.length_append, List.length_cons]
    split
    · simp; omega
    · simp; omega
set_option maxHeartbeats 2000000 in
set_option maxRecDepth 100000 in
theorem ttext_any (v : Value) (T : List V3) (n₀ : Nat) (w : World) (h : TupIn n₀ w v T) (hn : n₀ ≤ w.heap.size) (hI : ∀ x ∈ T, I64 x.n) (G : Glob w) :
    Calls Tryz.prog 6 #[v] w fun e w' => ((OkT T ∧ e = .returned (.tuple #[.string (strT T), .int .i64 0])) ∨ (¬ OkT T ∧ e = .returned (.tuple #[.string ⟨#[]⟩, .int .i64 20]))) ∧ Below w.heap.size w w' := by
  have HT := Lib.hid h
  have HG := Lib.hid G
  have HI := Lib.hid hI
  have HC := Lib.hid (tcheck_any v T n₀ w h hn)
  obtain ⟨p, cap, rfl, hl0, -⟩ := h
  clear hI G
  go_enter Tryz.func6, Tryz.ntmps6
  go_wp2_with fail
  refine HC.out.mono ?_
  rintro e w1 ⟨⟨hok, rfl⟩ | ⟨hok, rfl⟩, hb1⟩
  case inr =>
    have HO := Lib.hid hok
    have HB := Lib.hid hb1
    clear hok hb1
    go_wp2_with fail
    go_ret2
    exact ⟨.inr ⟨HO.out, rfl⟩, HB.out⟩
  have HV := Lib.hid (show ∀ x ∈ T, ValV x from fun x hx => ⟨hok.2 x hx, HI.out x hx⟩)
  have HO := Lib.hid hok
  have h8 : (T.length : Int) ≤ 8 := by have := hok.1; omega
  have hmk : ∀ W : World, (Instr.makeSlice 34 (.int .i64 (T.length : Int)) (.int .i64 (T.length : Int))).run Tryz.prog W = .ok (.slice (some ⟨W.heap.size, 0, none⟩) T.length T.length) (W.alloc (.cells (madeCells #[.string ⟨#[]⟩] T.length) 9)) := fun W => make_strs T.length (by omega) W
  have HB1 := Lib.hid hb1
  have HN := Lib.hid hn
  clear hok hb1 HC hn
  go_wp2_with fail
  have HS0 := Lib.hid (StrN.new w1 T.length)
  have HBx := Lib.hid (show Below w.heap.size w (w1.alloc (.cells (madeCells #[.string ⟨#[]⟩] T.length) 9)) from HB1.out.alloc HB1.out.size _)
  clear hmk
  go_loopw [18] (fun i wr => ∃ k : Nat, k ≤ T.length ∧ i = .int .i64 k ∧ Hid (StrN wr w1.heap.size T.length ((T.take k).map strV) ∧ Below w.heap.size w wr)) (fun i _ => T.length - (intOf i).toNat)
  case atStart => exact ⟨0, Nat.zero_le _, rfl, Lib.hid ⟨HS0.out, HBx.out⟩⟩
  case round =>
    obtain ⟨k, hk, rfl, hJ⟩ := hrel
    have h0 : (0 : Int) ≤ (k : Int) := by omega
    by_cases hlt : k < T.length
    case neg =>
      have hge : (T.length : Int) ≤ (k : Int) := by omega
      obtain rfl : k = T.length := by omega
      have hjl : Lib.join ((T.map strV).map (·.data.toList)) (⟨#[44, 32]⟩ : ByteArray).data.toList = joinT T := by
        rw [← lib_join, List.map_map]
        rfl
      have HJl := Lib.hid hjl
      have HStr := Lib.hid (show StrN wr w1.heap.size T.length (T.map strV) by have := hJ.out.1; rwa [List.take_length] at this)
      have hbk : w1.heap.size < wr.heap.size := by obtain ⟨A, h1, -⟩ := HStr.out; exact (Array.getElem?_eq_some_iff.1 h1).1
      have HJ2 := Lib.hid (Tryz.strings_Join w1.heap.size 0 T.length (T.map strV) ⟨#[44, 32]⟩ wr (fun j x hx => by rw [Nat.zero_add]; exact HStr.out.at_ hx) hbk (by simp; omega) (by simp) (by rw [hjl]; have := joinT_len T HV.out; omega))
      rw [List.length_map, HJl.out] at HJ2
      clear hjl hbk
      go_wp2_with fail
      refine HJ2.out.mono ?_
      rintro e w2 ⟨rfl, hb2⟩
      have HB2 := Lib.hid (hJ.out.2.trans (hb2.mono hJ.out.2.size))
      clear hb2
      have hX0 := joinT_len T HV.out
      have hT8 := HO.out.1
      obtain ⟨X, hX⟩ : ∃ X, X = (⟨(joinT T).toArray⟩ : ByteArray) := ⟨_, rfl⟩
      have hXs : X.size ≤ 9000 := by rw [Lib.size_eq, hX]; simp; omega
      have hXc : ((⟨#[40]⟩ : ByteArray) ++ X).size ≤ 9001 := by rw [ByteArray.size_append]; have : (⟨#[40]⟩ : ByteArray).size = 1 := rfl; omega
      have hcat := Lib.hid (strT_is T X (by rw [hX]))
      rw [← hX]
      clear hX hX0 hT8
      go_wp2_with fail
      go_ret2
      exact ⟨.inl ⟨HO.out, by rw [← hcat.out]; rfl⟩, HB2.out⟩
    have hlt' : (k : Int) < (T.length : Int) := by omega
    obtain ⟨b, off, c', e', hb, hc⟩ := HT.out.some hlt
    injection e' with e1 _ e3
    subst e1 e3
    have hbw : b < w.heap.size := Nat.lt_of_lt_of_le hb HN.out
    obtain ⟨x0, x1, x2⟩ := (hc.below hJ.out.2 hbw) k hlt
    have HVk := Lib.hid (HV.out _ (List.getElem_mem hlt))
    have HTk := Lib.hid (show (T.take (k + 1)).map strV = (T.take k).map strV ++ [strV T[k]] by rw [List.take_succ_eq_append_getElem hlt, List.map_append]; rfl)
    have hbs := hJ.out.2.size
    have hbr : b < wr.heap.size := by omega
    have HSt := Lib.hid (hJ.out.1.below (below_box wr (.cells #[.int .i64 T[k].k, .int .i64 T[k].n, .string T[k].s] 37)))
    have HBr := Lib.hid (show Below w.heap.size w (wr.alloc (.cells #[.int .i64 T[k].k, .int .i64 T[k].n, .string T[k].s] 37)) from hJ.out.2.alloc hbs _)
    clear hc
    go_wp2_with fail
    refine (text_yes _ _ _ _ HVk.out.1 HVk.out.2 (HG.out.below HBr.out)).mono ?_
    rintro e w2 ⟨rfl, hb2⟩
    have HS2 := Lib.hid (HSt.out.below hb2)
    have HB2 := Lib.hid (HBr.out.trans (hb2.mono HBr.out.size))
    obtain ⟨⟨u, hu⟩, hf⟩ := HS2.out.cells hlt
    have HP := Lib.hid (HS2.out.put (strV T[k]) (by rw [List.length_map, List.length_take]; omega))
    rw [List.length_map, List.length_take, Nat.min_eq_left hk, ← HTk.out] at HP
    clear hb2
    go_wp2_with fail
    go_roundw
    case rel => exact ⟨k + 1, by omega, by go_num, Lib.hid ⟨HP.out, HB2.out.setCell (p := ⟨w1.heap.size, k, none⟩) HB1.out.size _⟩⟩
    case measure => simp [intOf]; omega
end Go.Proofs.YtdfepeeicbpicaaGreatDoor
