/- Package arena: the text of an arena. -/
import Derived.Deep.RegionHeld3
import Derived.Test.YtklfojmflmablaaGreatDoorIo
import Derived.Test.YtklfojmflmablaaGreatDoorTx
namespace Go.Proofs.YtklfojmflmablaaGreatDoor
open Go Go.RowKit Go.Shelf
attribute [local go_sem ↓] append_shut

theorem RowIn.later {α : Type} {cs : α → List Value} {size : Nat} {w W : World} {v : Value} {l : List α} (h : RowIn cs size w w.heap.size v l) (hb : Below w.heap.size w W) : RowIn cs size W W.heap.size v l := by
  obtain ⟨A, c, e, hA⟩ := h
  refine ⟨A, c, e, fun i x hx => ?_⟩
  obtain ⟨b, off, e1, hbn, hc⟩ := hA i x hx
  exact ⟨b, off, e1, Nat.lt_of_lt_of_le hbn hb.size, fun j u hu => (World.cell?_of_block (hb.block _ hbn)).trans (hc j u hu)⟩

def strs (T : ByteArray) (l : List ByteArray) : ByteArray := ⟨(Lib.join ((T :: l).map (·.data.toList)) [59, 32]).toArray⟩
def jmp : ByteArray := ⟨#[59, 32, 106, 117, 109, 112, 115]⟩

theorem own_cells {W : World} {n₀ k : Nat} {v : Value} {xs : List ByteArray} (h : W.ownsRow n₀ 9 1 v k (xs.map Value.string)) (hk : 0 < k) : ∃ g c, v = .slice (some ⟨g, 0, none⟩) k c ∧ k ≤ c ∧ n₀ ≤ g ∧ g < W.heap.size ∧ ∀ (j : Nat) x, xs[j]? = some x → W.cell? ⟨g, 0 + j, none⟩ = some (.string x) := by
  obtain ⟨h1, h2⟩ := h
  rcases h2 with ⟨hn, h0⟩ | ⟨g, cap, cur, e, hb, hg, hcap, _, hsz, htake⟩
  · omega
  · refine ⟨g, cap, e, hcap, hb, (Array.getElem?_eq_some_iff.1 hg).1, fun j x hx => ?_⟩
    have hf : (xs.map Value.string)[j]? = some (.string x) := by rw [List.getElem?_map, hx]; rfl
    rw [← htake, List.getElem?_take] at hf
    split at hf
    · rw [Nat.zero_add, cell_of_row W g _ cur 9 (0, 0) hg]
      simpa using hf
    · cases hf

theorem own_one (W : World) (T : ByteArray) : (W.alloc (.cells #[.string T] 9)).ownsRow W.heap.size 9 1 (.slice (some ⟨W.heap.size, 0, none⟩) 1 1) 1 [.string T] :=
  ⟨rfl, .inr ⟨W.heap.size, 1, _, rfl, Nat.le_refl _, World.alloc_heap_new W _, Nat.le_refl _, by decide, rfl, rfl⟩⟩

theorem boxed_new2 (w : World) (o : Obj) (t : TypeId) (v : Value) : Boxed ((w.alloc o).alloc (.cells #[v] t)) (w.heap.size + 1) t v := by
  have := Boxed.new (w.alloc o) t v; rwa [World.size_alloc] at this

theorem app_strs (W : World) (g1 g4 c4 : Nat) (T : ByteArray) (fs : List ByteArray) (h1 : W.ownsRow g1 9 1 (.slice (some ⟨g1, 0, none⟩) 1 1) 1 [.string T]) (hg1 : g1 ≤ W.heap.size)
    (hcells : ∀ j u, (fs.map Value.string)[j]? = some u → W.cell? (Addr.add ⟨g4, 0, none⟩ j) = some u) (n : Nat) (hn : fs.length = n) (hl : n ≤ 1000) :
    ∃ g c w', (appShut #[147, 147] 147 #[.slice (some ⟨g1, 0, none⟩) 1 1, .slice (some ⟨g4, 0, none⟩) n c4]).run Tryz.prog W = .ok (.slice (some ⟨g, 0, none⟩) (1 + n) c) w' ∧ 1 + n ≤ c ∧ g < w'.heap.size ∧ (∀ (j : Nat) x, (T :: fs)[j]? = some x → w'.cell? ⟨g, 0 + j, none⟩ = some (.string x)) ∧ Below g1 W w' := by
  subst hn
  obtain ⟨i0, hi, hz0, hz1, hz2⟩ := info_parts info9
  obtain ⟨v', w', hrun, hown, hgrow, _, hat⟩ := run_append_own_at (P := Tryz.prog) W g1 147 147 9 i0 _ 1 16 Tryz.underlying147 hi hz0 hz1 hz2 rfl (by decide) (.slice (some ⟨g1, 0, none⟩) 1 1) 1 [.string T] h1 ⟨g4, 0, none⟩ fs.length c4 (fs.map Value.string) (by simp) hcells (by intro u hu; obtain ⟨x, _, rfl⟩ := List.mem_map.1 hu; rfl) (by unfold maxLen; omega) (by omega) hg1
  have hown' : w'.ownsRow g1 9 1 v' (1 + fs.length) ((T :: fs).map Value.string) := hown
  obtain ⟨g, c, rfl, hc, hg, hg2, hcell⟩ := own_cells hown' (by omega)
  rw [append_shut] at hrun
  exact ⟨g, c, w', hrun, hc, hg2, hcell, ⟨hgrow.os, hgrow.tape, hgrow.output, hgrow.size, fun b hb => hgrow.block b (Nat.lt_of_lt_of_le hb hg1) (by simp [Value.ownBlock]; omega)⟩⟩

set_option maxRecDepth 100000 in
set_option maxHeartbeats 1000000 in
theorem arenaText_true (v : Value) (ids : List Ty) (root : Bs) (f : Ty → ByteArray) (w : World) (h0 : 0 ≤ root.n) (h1 : root.n < 100) (hne : ids ≠ []) (hl : ids.length ≤ 1000) (hv : TyIn w w.heap.size v ids)
    (hlen : (strs (baseTx root) (ids.map f)).size ≤ 1000000)
    (hk : ∀ W pv x, x ∈ ids → BsIn w w.heap.size pv x.params → (∀ b, b < w.heap.size → W.heap[b]? = w.heap[b]?) → Calls Tryz.prog 157 #[tyV pv x.result] W fun e W' => e = .returned (.string (f x)) ∧ Below W.heap.size W W') :
    Calls Tryz.prog 75 #[arV v root true] w fun e w' => e = .returned (.string (strs (baseTx root) (ids.map f) ++ jmp)) ∧ Below w.heap.size w w' := by
  obtain ⟨zs, hzs, hrow, hbs⟩ := tyRow hv
  have hzl : zs.length = ids.length := by rw [← hzs, List.length_map]
  have hpos : 0 < ids.length := List.length_pos_iff.2 hne
  obtain ⟨A, c, rfl⟩ := tyIn_slice hv
  obtain ⟨w1, hw1⟩ : ∃ w1, (w.alloc (.cells #[.slice A ids.length c, .bool root.cell, .int .i64 root.n, .bool true] 26)) = w1 := ⟨_, rfl⟩
  have hb : Below w.heap.size w w1 := by rw [← hw1]; exact (Below.refl _ w).alloc (Nat.le_refl _) _
  have x0 : w1.heap[w.heap.size]? = some (.cells #[.slice A ids.length c, .bool root.cell, .int .i64 root.n, .bool true] 26 (0, 0)) := by rw [← hw1]; exact World.alloc_heap_new w _
  have HB := Lib.hid hb
  have HX0 := Lib.hid x0
  have HX1 : Hid (w1.heap.size = w.heap.size + 1) := Lib.hid (by rw [← hw1]; simp)
  have c0 := cell_of_row w1 _ 0 _ 26 (0, 0) x0
  have c1 := cell_of_row w1 _ 1 _ 26 (0, 0) x0
  have c2 := cell_of_row w1 _ 2 _ 26 (0, 0) x0
  have c3 := cell_of_row w1 _ 3 _ 26 (0, 0) x0
  have CB := Lib.hid (fun w => baseText_any root w h0 h1)
  obtain ⟨T, hT⟩ : ∃ T, baseTx root = T := ⟨_, rfl⟩
  rw [hT] at CB hlen ⊢
  have CE : Hid (∀ W B, Below w.heap.size w W → B < W.heap.size → Boxed W B 22 (.slice A ids.length c) → Calls Tryz.prog 155 #[.func (.func 197) #[] #[.pointer (some ⟨B, 0, none⟩)], .func (.func 157) #[] #[]] W fun e w' => ∃ g4 c4, e = .returned (.slice (some ⟨g4, 0, none⟩) ids.length c4) ∧ Below W.heap.size W w' ∧ W.heap.size ≤ g4 ∧ g4 < w'.heap.size ∧ ∀ j u, ((ids.map f).map Value.string)[j]? = some u → w'.cell? (Addr.add ⟨g4, 0, none⟩ j) = some u) := Lib.hid fun W B hW hB hbx => by
    refine (eachTyStr_any 157 B zs _ W (enters_of Tryz.func157 (by kernel_rfl) rfl) hB hbx (hrow.later hW) (by omega) (fun z hz => by obtain ⟨A, c, e⟩ := bsIn_slice (hbs z hz); exact ⟨A, _, c, e⟩) (fun z => f z.2) (fun W2 z hz h2 => hk W2 z.1 z.2 (by rw [← hzs]; exact List.mem_map_of_mem hz) (hbs z hz) (fun b hb' => (h2 b (Nat.lt_of_lt_of_le hb' hW.size)).trans (hW.block b hb')))).mono ?_
    rintro e w' ⟨v', rfl, hb', hr⟩
    have hx : (zs.flatMap fun x => [Value.string (f x.2)]) = (ids.map f).map Value.string := by
      rw [← hzs, List.map_map, List.map_map]
      clear hzs hrow hbs hzl hr
      induction zs with
      | nil => rfl
      | cons z zs ih => rw [List.flatMap_cons, ih]; rfl
    rw [hx, hzl] at hr
    obtain ⟨g, cc, rfl, hcc, hg1, hg2, hcell⟩ := own_cells hr hpos
    refine ⟨g, cc, rfl, hb', hg1, hg2, fun j u hu => ?_⟩
    rw [List.getElem?_map, Option.map_eq_some_iff] at hu
    obtain ⟨x, hx1, rfl⟩ := hu
    have hadd : (⟨g, 0, none⟩ : Addr).add j = ⟨g, 0 + j, none⟩ := by unfold Addr.add; split <;> simp_all
    rw [hadd]
    exact hcell j x hx1
  obtain ⟨R, hR⟩ : ∃ R, strs T (ids.map f) = R := ⟨_, rfl⟩
  have CJ : Hid (∀ W g c, 1 + ids.length ≤ c → g < W.heap.size → (∀ (j : Nat) x, (T :: ids.map f)[j]? = some x → W.cell? ⟨g, 0 + j, none⟩ = some (.string x)) → Calls Tryz.prog 158 #[.slice (some ⟨g, 0, none⟩) (1 + ids.length) c, .string ⟨#[59, 32]⟩] W fun e w' => e = .returned (.string R) ∧ Below W.heap.size W w') := Lib.hid fun W g c hc hg hcell => by
    have hll : (T :: ids.map f).length = 1 + ids.length := by simp; omega
    have := Tryz.strings_Join g 0 c (T :: ids.map f) ⟨#[59, 32]⟩ W hcell hg (by rw [hll]; omega) (by rw [hll]; exact hc) (by
      have := hlen; unfold strs at this; simp only [ByteArray.size, List.size_toArray] at this; exact Nat.le_trans this (by omega))
    rw [hll] at this
    rw [← hR]
    exact this
  rw [hR] at hlen ⊢
  unfold arV
  unfold bsV at CB
  have HL := Lib.hid hl
  have HP := Lib.hid hpos
  clear hb x0 hv hrow hbs hk hzs hzl hT h0 h1 hne hl hpos
  go_enter Tryz.func75, Tryz.ntmps75
  go_wp2
  go_region_held3 (fun W => W.cell? ⟨w.heap.size, 0, none⟩ = some (.slice A ids.length c) ∧ W.cell? ⟨w.heap.size, 1, none⟩ = some (.bool root.cell) ∧ W.cell? ⟨w.heap.size, 2, none⟩ = some (.int .i64 root.n) ∧ W.cell? ⟨w.heap.size, 3, none⟩ = some (.bool true))
    (first
      | go_keep
      | (go_split_ands
         refine ⟨?_, ?_, ?_, ?_⟩ <;> (repeat' (first
           | assumption
           | refine cell_alloc_some _ ?_
           | refine (hb9.cell (by have h1 := hb2.size; have h2 := HX1.out; have h3 := hb5.size; simp at h1 h3 ⊢; omega)).trans ?_
           | refine (hb5.cell (by have h1 := hb2.size; have h2 := HX1.out; simp at h1 ⊢; omega)).trans ?_
           | refine (hb2.cell (by have h2 := HX1.out; simp; omega)).trans ?_)))
      | (trace_state; fail))
    (first
    | (go_at_call 154; refine (CB.out _).mono ?_; rintro e w2 ⟨rfl, hb2⟩; have hb12 : Below w.heap.size w w2 := HB.out.trans ((((Below.refl _ w1).drew).trans hb2).mono HB.out.size))
    | (go_at_call 156; refine (valuesTy_any _ _ _ _).mono ?_; rintro e w3 ⟨rfl, rfl⟩)
    | (go_at_call 155; first
        | (with_reducible refine (CE.out ((w2.alloc (.cells #[.string T] 9)).alloc (.cells #[.slice A ids.length c] 22)) (w2.heap.size + 1) ?_ ?_ ?_).mono ?_; (exact (hb12.alloc hb12.size _).alloc (by have := hb12.size; simp; omega) _); (simp); (exact boxed_new2 _ _ _ _); rintro e w5 ⟨g4, c4, rfl, hb5, hg4, hg5, hcell⟩; obtain ⟨g, cc, w9, hrun, hcc, hg9, hcell9, hb9⟩ := app_strs w5 w2.heap.size g4 c4 T (ids.map f) (row_below ((own_one w2 T).alloc _) hb5) (by have := hb5.size; simp at this; omega) hcell ids.length (by simp) HL.out; have hq := (hb12.alloc hb12.size (.cells #[.string T] 9)).alloc (by have := hb12.size; simp; omega) (.cells #[.slice A ids.length c] 22); have hb19 : Below w.heap.size w w9 := (hq.trans (hb5.mono hq.size)).trans (hb9.mono hb12.size); have hw9 : w.heap.size < w9.heap.size := (by have h1 := HX1.out; have h2 := hb2.size; have h3 := hb5.size; have h4 := hb9.size; simp at h2 h3 h4; omega); clear hq)
        | (with_reducible refine (CE.out ((w2.alloc (.cells #[.slice A ids.length c] 22)).alloc (.cells #[.string T] 9)) (w2.heap.size) ?_ ?_ ?_).mono ?_; (exact (hb12.alloc hb12.size _).alloc (by have := hb12.size; simp; omega) _); (simp; omega); (exact (Boxed.new _ _ _).alloc _); rintro e w5 ⟨g4, c4, rfl, hb5, hg4, hg5, hcell⟩; obtain ⟨g, cc, w9, hrun, hcc, hg9, hcell9, hb9⟩ := app_strs w5 (w2.heap.size + 1) g4 c4 T (ids.map f) (row_below (by have := own_one (w2.alloc (.cells #[.slice A ids.length c] 22)) T; rwa [World.size_alloc] at this) hb5) (by have := hb5.size; simp at this; omega) hcell ids.length (by simp) HL.out; have hq := (hb12.alloc hb12.size (.cells #[.slice A ids.length c] 22)).alloc (by have := hb12.size; simp; omega) (.cells #[.string T] 9); have hb19 : Below w.heap.size w w9 := (hq.trans (hb5.mono hq.size)).trans (hb9.mono (by have := hb12.size; omega)); have hw9 : w.heap.size < w9.heap.size := (by have h1 := HX1.out; have h2 := hb2.size; have h3 := hb5.size; have h4 := hb9.size; simp at h2 h3 h4; omega); clear hq)
        | (with_reducible refine (CE.out (w2.alloc (.cells #[.slice A ids.length c] 22)) w2.heap.size ?_ ?_ ?_).mono ?_; (exact hb12.alloc hb12.size _); (simp); (exact Boxed.new _ _ _); rintro e w5 ⟨g4, c4, rfl, hb5, hg4, hg5, hcell⟩; obtain ⟨g, cc, w9, hrun, hcc, hg9, hcell9, hb9⟩ := app_strs (w5.alloc (.cells #[.string T] 9)) w5.heap.size g4 c4 T (ids.map f) (own_one w5 T) (by simp) (fun j u hu => cell_alloc_some _ (hcell j u hu)) ids.length (by simp) HL.out; have hq := hb12.alloc hb12.size (.cells #[.slice A ids.length c] 22); have hr := hq.trans (hb5.mono hq.size); have hb19 : Below w.heap.size w w9 := (hr.alloc hr.size _).trans (hb9.mono hr.size); have hw9 : w.heap.size < w9.heap.size := (by have h1 := HX1.out; have h2 := hb2.size; have h3 := hb5.size; have h4 := hb9.size; simp at h2 h3 h4; omega); clear hq hr)))
  all_goals (
    rename_i hheld
    obtain ⟨u0, u1, u2, u3⟩ := hheld
    have HB19 := Lib.hid hb19
    have U3 := Lib.hid u3
    have JJ := CJ.out w9 g cc hcc hg9 hcell9
    clear u0 u1 u2 u3 hb9 hcell hrun hb19 hcell9 hcc hg9 c0 c1 c2 c3 hb5 hg4 hg5 hb2 hb12
    go_wp2_with (go_at_call 158; refine JJ.mono ?_; rintro e wx ⟨rfl, hbx⟩; have u3 := (hbx.cell (p := ⟨w.heap.size, 3, none⟩) (by have h1 := HB19.out.size; have h2 := HX1.out; have h3 := hw9; omega)).trans U3.out)
    go_ret
    exact ⟨rfl, HB19.out.trans (hbx.mono HB19.out.size)⟩)

set_option maxRecDepth 100000 in
set_option maxHeartbeats 1000000 in
theorem arenaText_false (v : Value) (ids : List Ty) (root : Bs) (f : Ty → ByteArray) (w : World) (h0 : 0 ≤ root.n) (h1 : root.n < 100) (hne : ids ≠ []) (hl : ids.length ≤ 1000) (hv : TyIn w w.heap.size v ids)
    (hlen : (strs (baseTx root) (ids.map f)).size ≤ 1000000)
    (hk : ∀ W pv x, x ∈ ids → BsIn w w.heap.size pv x.params → (∀ b, b < w.heap.size → W.heap[b]? = w.heap[b]?) → Calls Tryz.prog 157 #[tyV pv x.result] W fun e W' => e = .returned (.string (f x)) ∧ Below W.heap.size W W') :
    Calls Tryz.prog 75 #[arV v root false] w fun e w' => e = .returned (.string (strs (baseTx root) (ids.map f))) ∧ Below w.heap.size w w' := by
  obtain ⟨zs, hzs, hrow, hbs⟩ := tyRow hv
  have hzl : zs.length = ids.length := by rw [← hzs, List.length_map]
  have hpos : 0 < ids.length := List.length_pos_iff.2 hne
  obtain ⟨A, c, rfl⟩ := tyIn_slice hv
  obtain ⟨w1, hw1⟩ : ∃ w1, (w.alloc (.cells #[.slice A ids.length c, .bool root.cell, .int .i64 root.n, .bool false] 26)) = w1 := ⟨_, rfl⟩
  have hb : Below w.heap.size w w1 := by rw [← hw1]; exact (Below.refl _ w).alloc (Nat.le_refl _) _
  have x0 : w1.heap[w.heap.size]? = some (.cells #[.slice A ids.length c, .bool root.cell, .int .i64 root.n, .bool false] 26 (0, 0)) := by rw [← hw1]; exact World.alloc_heap_new w _
  have HB := Lib.hid hb
  have HX0 := Lib.hid x0
  have HX1 : Hid (w1.heap.size = w.heap.size + 1) := Lib.hid (by rw [← hw1]; simp)
  have c0 := cell_of_row w1 _ 0 _ 26 (0, 0) x0
  have c1 := cell_of_row w1 _ 1 _ 26 (0, 0) x0
  have c2 := cell_of_row w1 _ 2 _ 26 (0, 0) x0
  have c3 := cell_of_row w1 _ 3 _ 26 (0, 0) x0
  have CB := Lib.hid (fun w => baseText_any root w h0 h1)
  obtain ⟨T, hT⟩ : ∃ T, baseTx root = T := ⟨_, rfl⟩
  rw [hT] at CB hlen ⊢
  have CE : Hid (∀ W B, Below w.heap.size w W → B < W.heap.size → Boxed W B 22 (.slice A ids.length c) → Calls Tryz.prog 155 #[.func (.func 197) #[] #[.pointer (some ⟨B, 0, none⟩)], .func (.func 157) #[] #[]] W fun e w' => ∃ g4 c4, e = .returned (.slice (some ⟨g4, 0, none⟩) ids.length c4) ∧ Below W.heap.size W w' ∧ W.heap.size ≤ g4 ∧ g4 < w'.heap.size ∧ ∀ j u, ((ids.map f).map Value.string)[j]? = some u → w'.cell? (Addr.add ⟨g4, 0, none⟩ j) = some u) := Lib.hid fun W B hW hB hbx => by
    refine (eachTyStr_any 157 B zs _ W (enters_of Tryz.func157 (by kernel_rfl) rfl) hB hbx (hrow.later hW) (by omega) (fun z hz => by obtain ⟨A, c, e⟩ := bsIn_slice (hbs z hz); exact ⟨A, _, c, e⟩) (fun z => f z.2) (fun W2 z hz h2 => hk W2 z.1 z.2 (by rw [← hzs]; exact List.mem_map_of_mem hz) (hbs z hz) (fun b hb' => (h2 b (Nat.lt_of_lt_of_le hb' hW.size)).trans (hW.block b hb')))).mono ?_
    rintro e w' ⟨v', rfl, hb', hr⟩
    have hx : (zs.flatMap fun x => [Value.string (f x.2)]) = (ids.map f).map Value.string := by
      rw [← hzs, List.map_map, List.map_map]
      clear hzs hrow hbs hzl hr
      induction zs with
      | nil => rfl
      | cons z zs ih => rw [List.flatMap_cons, ih]; rfl
    rw [hx, hzl] at hr
    obtain ⟨g, cc, rfl, hcc, hg1, hg2, hcell⟩ := own_cells hr hpos
    refine ⟨g, cc, rfl, hb', hg1, hg2, fun j u hu => ?_⟩
    rw [List.getElem?_map, Option.map_eq_some_iff] at hu
    obtain ⟨x, hx1, rfl⟩ := hu
    have hadd : (⟨g, 0, none⟩ : Addr).add j = ⟨g, 0 + j, none⟩ := by unfold Addr.add; split <;> simp_all
    rw [hadd]
    exact hcell j x hx1
  obtain ⟨R, hR⟩ : ∃ R, strs T (ids.map f) = R := ⟨_, rfl⟩
  have CJ : Hid (∀ W g c, 1 + ids.length ≤ c → g < W.heap.size → (∀ (j : Nat) x, (T :: ids.map f)[j]? = some x → W.cell? ⟨g, 0 + j, none⟩ = some (.string x)) → Calls Tryz.prog 158 #[.slice (some ⟨g, 0, none⟩) (1 + ids.length) c, .string ⟨#[59, 32]⟩] W fun e w' => e = .returned (.string R) ∧ Below W.heap.size W w') := Lib.hid fun W g c hc hg hcell => by
    have hll : (T :: ids.map f).length = 1 + ids.length := by simp; omega
    have := Tryz.strings_Join g 0 c (T :: ids.map f) ⟨#[59, 32]⟩ W hcell hg (by rw [hll]; omega) (by rw [hll]; exact hc) (by
      have := hlen; unfold strs at this; simp only [ByteArray.size, List.size_toArray] at this; exact Nat.le_trans this (by omega))
    rw [hll] at this
    rw [← hR]
    exact this
  rw [hR] at hlen ⊢
  unfold arV
  unfold bsV at CB
  have HL := Lib.hid hl
  have HP := Lib.hid hpos
  clear hb x0 hv hrow hbs hk hzs hzl hT h0 h1 hne hl hpos
  go_enter Tryz.func75, Tryz.ntmps75
  go_wp2
  go_region_held3 (fun W => W.cell? ⟨w.heap.size, 0, none⟩ = some (.slice A ids.length c) ∧ W.cell? ⟨w.heap.size, 1, none⟩ = some (.bool root.cell) ∧ W.cell? ⟨w.heap.size, 2, none⟩ = some (.int .i64 root.n) ∧ W.cell? ⟨w.heap.size, 3, none⟩ = some (.bool false))
    (first
      | go_keep
      | (go_split_ands
         refine ⟨?_, ?_, ?_, ?_⟩ <;> (repeat' (first
           | assumption
           | refine cell_alloc_some _ ?_
           | refine (hb9.cell (by have h1 := hb2.size; have h2 := HX1.out; have h3 := hb5.size; simp at h1 h3 ⊢; omega)).trans ?_
           | refine (hb5.cell (by have h1 := hb2.size; have h2 := HX1.out; simp at h1 ⊢; omega)).trans ?_
           | refine (hb2.cell (by have h2 := HX1.out; simp; omega)).trans ?_)))
      | (trace_state; fail))
    (first
    | (go_at_call 154; refine (CB.out _).mono ?_; rintro e w2 ⟨rfl, hb2⟩; have hb12 : Below w.heap.size w w2 := HB.out.trans ((((Below.refl _ w1).drew).trans hb2).mono HB.out.size))
    | (go_at_call 156; refine (valuesTy_any _ _ _ _).mono ?_; rintro e w3 ⟨rfl, rfl⟩)
    | (go_at_call 155; first
        | (with_reducible refine (CE.out ((w2.alloc (.cells #[.string T] 9)).alloc (.cells #[.slice A ids.length c] 22)) (w2.heap.size + 1) ?_ ?_ ?_).mono ?_; (exact (hb12.alloc hb12.size _).alloc (by have := hb12.size; simp; omega) _); (simp); (exact boxed_new2 _ _ _ _); rintro e w5 ⟨g4, c4, rfl, hb5, hg4, hg5, hcell⟩; obtain ⟨g, cc, w9, hrun, hcc, hg9, hcell9, hb9⟩ := app_strs w5 w2.heap.size g4 c4 T (ids.map f) (row_below ((own_one w2 T).alloc _) hb5) (by have := hb5.size; simp at this; omega) hcell ids.length (by simp) HL.out; have hq := (hb12.alloc hb12.size (.cells #[.string T] 9)).alloc (by have := hb12.size; simp; omega) (.cells #[.slice A ids.length c] 22); have hb19 : Below w.heap.size w w9 := (hq.trans (hb5.mono hq.size)).trans (hb9.mono hb12.size); have hw9 : w.heap.size < w9.heap.size := (by have h1 := HX1.out; have h2 := hb2.size; have h3 := hb5.size; have h4 := hb9.size; simp at h2 h3 h4; omega); clear hq)
        | (with_reducible refine (CE.out ((w2.alloc (.cells #[.slice A ids.length c] 22)).alloc (.cells #[.string T] 9)) (w2.heap.size) ?_ ?_ ?_).mono ?_; (exact (hb12.alloc hb12.size _).alloc (by have := hb12.size; simp; omega) _); (simp; omega); (exact (Boxed.new _ _ _).alloc _); rintro e w5 ⟨g4, c4, rfl, hb5, hg4, hg5, hcell⟩; obtain ⟨g, cc, w9, hrun, hcc, hg9, hcell9, hb9⟩ := app_strs w5 (w2.heap.size + 1) g4 c4 T (ids.map f) (row_below (by have := own_one (w2.alloc (.cells #[.slice A ids.length c] 22)) T; rwa [World.size_alloc] at this) hb5) (by have := hb5.size; simp at this; omega) hcell ids.length (by simp) HL.out; have hq := (hb12.alloc hb12.size (.cells #[.slice A ids.length c] 22)).alloc (by have := hb12.size; simp; omega) (.cells #[.string T] 9); have hb19 : Below w.heap.size w w9 := (hq.trans (hb5.mono hq.size)).trans (hb9.mono (by have := hb12.size; omega)); have hw9 : w.heap.size < w9.heap.size := (by have h1 := HX1.out; have h2 := hb2.size; have h3 := hb5.size; have h4 := hb9.size; simp at h2 h3 h4; omega); clear hq)
        | (with_reducible refine (CE.out (w2.alloc (.cells #[.slice A ids.length c] 22)) w2.heap.size ?_ ?_ ?_).mono ?_; (exact hb12.alloc hb12.size _); (simp); (exact Boxed.new _ _ _); rintro e w5 ⟨g4, c4, rfl, hb5, hg4, hg5, hcell⟩; obtain ⟨g, cc, w9, hrun, hcc, hg9, hcell9, hb9⟩ := app_strs (w5.alloc (.cells #[.string T] 9)) w5.heap.size g4 c4 T (ids.map f) (own_one w5 T) (by simp) (fun j u hu => cell_alloc_some _ (hcell j u hu)) ids.length (by simp) HL.out; have hq := hb12.alloc hb12.size (.cells #[.slice A ids.length c] 22); have hr := hq.trans (hb5.mono hq.size); have hb19 : Below w.heap.size w w9 := (hr.alloc hr.size _).trans (hb9.mono hr.size); have hw9 : w.heap.size < w9.heap.size := (by have h1 := HX1.out; have h2 := hb2.size; have h3 := hb5.size; have h4 := hb9.size; simp at h2 h3 h4; omega); clear hq hr)))
  all_goals (
    rename_i hheld
    obtain ⟨u0, u1, u2, u3⟩ := hheld
    have HB19 := Lib.hid hb19
    have U3 := Lib.hid u3
    have JJ := CJ.out w9 g cc hcc hg9 hcell9
    clear u0 u1 u2 u3 hb9 hcell hrun hb19 hcell9 hcc hg9 c0 c1 c2 c3 hb5 hg4 hg5 hb2 hb12
    go_wp2_with (go_at_call 158; refine JJ.mono ?_; rintro e wx ⟨rfl, hbx⟩; have u3 := (hbx.cell (p := ⟨w.heap.size, 3, none⟩) (by have h1 := HB19.out.size; have h2 := HX1.out; have h3 := hw9; omega)).trans U3.out)
    go_ret
    exact ⟨rfl, HB19.out.trans (hbx.mono HB19.out.size)⟩)

def arTx (f : Ty → ByteArray) (a : Ar) : ByteArray := if a.jumps then strs (baseTx a.root) (a.ids.map f) ++ jmp else strs (baseTx a.root) (a.ids.map f)
theorem arenaText_any (v : Value) (a : Ar) (f : Ty → ByteArray) (w : World) (h0 : 0 ≤ a.root.n) (h1 : a.root.n < 100) (hne : a.ids ≠ []) (hl : a.ids.length ≤ 1000) (hv : TyIn w w.heap.size v a.ids)
    (hlen : (strs (baseTx a.root) (a.ids.map f)).size ≤ 1000000)
    (hk : ∀ W pv x, x ∈ a.ids → BsIn w w.heap.size pv x.params → (∀ b, b < w.heap.size → W.heap[b]? = w.heap[b]?) → Calls Tryz.prog 157 #[tyV pv x.result] W fun e W' => e = .returned (.string (f x)) ∧ Below W.heap.size W W') :
    Calls Tryz.prog 75 #[arV v a.root a.jumps] w fun e w' => e = .returned (.string (arTx f a)) ∧ Below w.heap.size w w' := by
  obtain ⟨ids, root, ju⟩ := a
  cases ju with
  | true => exact arenaText_true v ids root f w h0 h1 hne hl hv hlen hk
  | false => exact arenaText_false v ids root f w h0 h1 hne hl hv hlen hk
end Go.Proofs.YtklfojmflmablaaGreatDoor
