/- The contracts of lex.change.growth, lex.plan. -/
import Derived.Test.YtjadjmkbjolklaaDoorPure5
import Derived.Test.YtjadjmkbjolklaaDoorLexI
namespace Go.Proofs.YtjadjmkbjolklaaDoor
open Go.RowKit

set_option maxHeartbeats 400000 in
theorem growth_any (x : Chg) (w : World) (h1 : x.text.size ≤ 140737488355328) (h2 : x.out.size ≤ 140737488355328) :
    Calls Tryd.prog 72 #[.agg #[.int .i64 x.from_, .int .i64 x.to_, .string x.text, .string x.out, .int .i64 x.at_]] w fun e w' => e = .returned (.int .i64 ((x.text.size : Int) - x.out.size)) ∧ Below w.heap.size w w' := by
  go_enter Tryd.func72, Tryd.ntmps72
  go_wp2
  go_ret
  exact ⟨rfl, (Below.refl _ _).alloc (Nat.le_refl _) _⟩

theorem info102 : (Tryd.prog.info? 102).map (fun i => (i.zero, i.size, i.bytes)) = some (some (.agg #[.int .i64 0, .int .i64 0, .string ByteArray.empty, .string ByteArray.empty, .int .i64 0]), 5, 56) := by kernel_rfl

theorem row_base {W : World} {n₀ : Nat} {e : TypeId} {size k : Nat} {v : Value} {xs : List Value} (h : W.ownsRow n₀ e size v k xs) {j : Nat} (ej : v.ownBlock = some j) : n₀ ≤ j := by
  rcases h.2 with ⟨rfl, _⟩ | ⟨g, cap, cur, rfl, hb, _, _⟩
  · simp [Value.ownBlock] at ej
  · obtain rfl : g = j := by simpa [Value.ownBlock] using ej
    exact hb

theorem plan_round {w wr w2 : World} {o5 : Array Value} {c0 c1 c2 c3 c4 : Value} {v : Value} {n : Nat} {xs : List Value}
    (hb2 : Below ((wr.alloc (.cells o5 56)).alloc (.cells #[c0, c1, c2, c3, c4] 102)).drew.heap.size ((wr.alloc (.cells o5 56)).alloc (.cells #[c0, c1, c2, c3, c4] 102)).drew w2)
    (hrow : wr.ownsRow w.heap.size 102 5 v n xs) (hb : Below w.heap.size w wr) :
    w2.cell? ⟨wr.heap.size + 1, 0, none⟩ = some c0 ∧ w2.cell? ⟨wr.heap.size + 1, 1, none⟩ = some c1 ∧ w2.cell? ⟨wr.heap.size + 1, 2, none⟩ = some c2 ∧ w2.cell? ⟨wr.heap.size + 1, 3, none⟩ = some c3 ∧ w2.cell? ⟨wr.heap.size + 1, 4, none⟩ = some c4 ∧
      w2.ownsRow w.heap.size 102 5 v n xs ∧ Below w.heap.size w w2 := by
  have h0 := World.alloc_heap_new (wr.alloc (.cells o5 56)) (.cells #[c0, c1, c2, c3, c4] 102)
  rw [World.size_alloc] at h0
  have hblk : w2.heap[wr.heap.size + 1]? = some (.cells #[c0, c1, c2, c3, c4] 102 (0, 0)) := (hb2.block _ (by simp)).trans h0
  refine ⟨cell_of_row w2 _ 0 _ 102 (0, 0) hblk, cell_of_row w2 _ 1 _ 102 (0, 0) hblk, cell_of_row w2 _ 2 _ 102 (0, 0) hblk, cell_of_row w2 _ 3 _ 102 (0, 0) hblk, cell_of_row w2 _ 4 _ 102 (0, 0) hblk, ?_, ?_⟩
  · exact (((hrow.alloc _).alloc _).drew).kept (only_of_below hb2 none) (by cases hv : v.ownBlock <;> simp)
  · have := hb.size
    exact (((hb.alloc hb.size _).alloc (by simp; omega) _).drew).trans (hb2.mono (by simp; omega))

set_option maxRecDepth 100000 in
set_option maxHeartbeats 2000000 in
theorem plan_any (s : ByteArray) (v : Value) (l : List Spl) (w : World) (hs : s.size ≤ 140737488355328) (hl : l.length ≤ 1000) (hin : splIn s.size l) (hv : SplIn w w.heap.size v l) :
    Calls Tryd.prog 81 #[.string s, v] w fun e w' => ∃ v', e = .returned (.tuple #[v', .int .i64 (planRes s l).2]) ∧ Below w.heap.size w w' ∧ w'.ownsRow w.heap.size 102 5 v' (planRes s l).1.length (chgCells (planRes s l).1) := by
  obtain ⟨A, c, rfl, hA⟩ := hv
  have HA := Lib.hid hA
  have HI := Lib.hid hin
  clear hA hin
  obtain ⟨i0, hi, hz0, hz1, hz2⟩ := info_parts info102
  go_enter Tryd.func81, Tryd.ntmps81
  go_wp2_with (at_make; refine wpList_make_own _ rfl _ _ 95 rfl w.heap.size 102 i0 _ 5 Tryd.underlying95 hi hz0 hz1 .i64 .i64 _ l.length rfl rfl rfl (by rw [hz2]; omega) (by unfold maxLen; omega) (Nat.le_refl _) ?_; intro w1 hown hgrow)
  have hb1 : Below w.heap.size w w1 := (Below.refl _ _).grown hgrow (Nat.le_refl _) (fun k e => by cases e)
  go_loopw [6, 7, 16] (fun v gr i wr => ∃ (k : Nat) (g : Int) (done : List Chg), k ≤ l.length ∧ i = .int .i64 k ∧ gr = .int .i64 g ∧ wr.ownsRow w.heap.size 102 5 v done.length (chgCells done) ∧ done.length ≤ k ∧
      Hid (done.length = k ∧ chgs s 0 l = done ++ chgs s g (l.drop k) ∧ grown s 0 l = grown s g (l.drop k)) ∧ -((k : Int) * 140737488355328) ≤ g ∧ g ≤ (k : Int) * 140737488355328 ∧ Below w.heap.size w wr) (fun _ _ i _ => l.length - (intOf i).toNat)
  case atStart => exact ⟨0, 0, [], by omega, rfl, rfl, hown, by simp, Lib.hid ⟨rfl, rfl, rfl⟩, by omega, by omega, hb1⟩
  case round =>
    obtain ⟨k, g, done, hk, rfl, rfl, hrow, hdk, HD, hg1, hg2, hb⟩ := hrel
    by_cases hlt : k < l.length
    · obtain ⟨x, hx⟩ : ∃ x, l[k]? = some x := ⟨_, List.getElem?_eq_getElem hlt⟩
      obtain ⟨b, off, rfl, hB, h1, h2, h3⟩ := HA.out k x hx
      obtain ⟨x1, x2, x3, x4⟩ := HI.out x (List.mem_of_getElem? hx)
      have HX := Lib.hid hx
      have d1 := (hb.cell (p := ⟨b, _, none⟩) hB).trans h1
      have d2 := (hb.cell (p := ⟨b, _, none⟩) hB).trans h2
      have d3 := (hb.cell (p := ⟨b, _, none⟩) hB).trans h3
      clear h1 h2 h3 hx hown
      have hsz := hb.size
      obtain ⟨A', c', rfl⟩ := slice_of hrow
      go_wp2_with fail
      go_region
      have ho : (s.extract x.from_.toNat x.to_.toNat).size ≤ s.size := by simp; omega
      generalize hO : s.extract x.from_.toNat x.to_.toNat = o at ho ⊢
      have HO := Lib.hid hO
      clear hO d1 d2 d3
      have C72 := Lib.hid (fun w => growth_any ⟨x.from_, x.to_, x.text, o, x.from_ + g⟩ w x4 (by show o.size ≤ _; omega))
      go_wp2_with (first
        | (go_at_call 72; refine (C72.out _).mono ?_; rintro e w2 ⟨rfl, hb2⟩; obtain ⟨e0, e1, e2, e3, e4, hrow2, hB2⟩ := plan_round hb2 hrow hb; have hsz2 := hB2.size; clear hb2 C72)
        | (at_builtin; refine wpList_append_own _ rfl _ _ 95 rfl w.heap.size 102 i0 _ 5 56 Tryd.underlying95 hi hz0 hz1 hz2 rfl (by decide) _ _ _ rfl (hrow2.alloc _) ⟨w2.heap.size, 0, none⟩ 1 1 [.int .i64 x.from_, .int .i64 x.to_, .string x.text, .string o, .int .i64 (x.from_ + g)] rfl rfl (cells_new _ _ _) (by simp [Value.oneCell']) (by unfold maxLen; omega) (by omega) (by simp; omega) ?_; intro v' w3 hown' hgrow' _))
      have hb3 : Below w.heap.size w w3 := (hB2.alloc hsz2 _).grown hgrow' (by simp; omega) (fun k e => row_base hrow2 e)
      go_roundw
      case rel =>
        refine ⟨k + 1, _, done ++ [⟨x.from_, x.to_, x.text, o, x.from_ + g⟩], by omega, by go_num, rfl, ?_, by simp; omega, Lib.hid ⟨by rw [List.length_append, HD.out.1]; rfl, ?_, ?_⟩, by omega, by omega, hb3⟩
        · rw [chgCells_append, List.length_append]
          exact hown'
        · rw [HD.out.2.1, chgs_step s g l k x HX.out, HO.out]
          simp
        · rw [HD.out.2.2, grown_step s g l k x HX.out, HO.out]
      case measure => simp [intOf]; omega
    · have hkl : k = l.length := by omega
      have h1 := HD.out
      rw [List.drop_eq_nil_of_le (by omega)] at h1
      have HE : Hid (chgs s 0 l = done ∧ grown s 0 l = g) := Lib.hid ⟨by rw [h1.2.1]; simp [chgs], by rw [h1.2.2]; rfl⟩
      clear h1 hkl HD
      by_cases hg : 2500 < (s.size : Int) + g
      · have hp : Hid (planRes s l = ([], 5)) := Lib.hid (by unfold planRes; rw [HE.out.2, if_pos hg])
        go_wp2
        go_ret2
        rw [hp.out]
        exact ⟨_, rfl, hb, World.ownsRow_nil _ _ _ _⟩
      · have hp : Hid (planRes s l = (done, 0)) := Lib.hid (by unfold planRes; rw [HE.out.2, if_neg hg, HE.out.1])
        go_wp2
        go_ret2
        rw [hp.out]
        exact ⟨_, rfl, hb, hrow⟩
end Go.Proofs.YtjadjmkbjolklaaDoor
