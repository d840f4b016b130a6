/- Lists of ints: SameInts, and slices.Repeat of one. -/
import Derived.Test.YtjadjmkbjolklaaGreatDoorTgtI
import Derived.Laws.CopyOwn
import Derived.Deep.RegionLaw
import Derived.OwnWalk
import Derived.BigQuiet
import Derived.Deep.QuietTactic
namespace Go.Proofs.YtjadjmkbjolklaaGreatDoor
open Go Go.RowKit

/-- A slice value that holds ints, in a block below B. -/
def IntIn (W : World) (B : Nat) (v : Value) (l : List Int) : Prop :=
  ∃ A c, v = .slice A l.length c ∧ ∀ i (x : Int), l[i]? = some x → ∃ b off, A = some ⟨b, off, none⟩ ∧ b < B ∧ W.cell? ⟨b, off + i, none⟩ = some (.int .i64 x)

theorem IntIn.more {W : World} {B B' : Nat} {v : Value} {l : List Int} (h : IntIn W B v l) (hB : B ≤ B') : IntIn W B' v l := by
  obtain ⟨A, c, rfl, hA⟩ := h
  refine ⟨A, c, rfl, fun i x hx => ?_⟩
  obtain ⟨b, off, rfl, h0, h1⟩ := hA i x hx
  exact ⟨b, off, rfl, by omega, h1⟩

theorem IntIn.below {W W' : World} {B : Nat} {v : Value} {l : List Int} (h : IntIn W B v l) (hb : Below B W W') : IntIn W' B v l := by
  obtain ⟨A, c, rfl, hA⟩ := h
  refine ⟨A, c, rfl, fun i x hx => ?_⟩
  obtain ⟨b, off, rfl, hB, h1⟩ := hA i x hx
  exact ⟨b, off, rfl, hB, (hb.cell (p := ⟨b, _, none⟩) hB).trans h1⟩

def intCells (l : List Int) : List Value := l.map (Value.int .i64)

theorem intIn_of_own {W : World} {n₀ : Nat} {v : Value} {l : List Int} (h : W.ownsRow n₀ 3 1 v l.length (intCells l)) : IntIn W W.heap.size v l := by
  obtain ⟨A, c, rfl, hA⟩ := row_at h
  refine ⟨A, c, rfl, fun i x hx => ?_⟩
  have hi : (intCells l)[i]? = some (.int .i64 x) := by unfold intCells; rw [List.getElem?_map, hx]; rfl
  obtain ⟨b, rfl, hb, hc⟩ := hA (by intro e; rw [e] at hi; simp at hi)
  exact ⟨b, 0, rfl, hb, by have := hc _ _ hi; simpa using this⟩

theorem info3 : (Tryz.prog.info? 3).map (fun i => (i.zero, i.size, i.bytes)) = some (some (.int .i64 0), 1, 8) := by kernel_rfl
theorem size3 : (Tryz.prog.info? 3).map (·.size) = some 1 := by kernel_rfl

set_option maxRecDepth 100000 in
theorem slice41_l {g n m : Nat} (w : World) (hm : m < n) : (Instr.slice 36 (.slice (some ⟨g, 0, none⟩) n n) (some (.int .i64 m)) none none).run Tryz.prog w = .ok (.slice (some ⟨g, m, none⟩) (n - m) (n - m)) w := by
  have h := Tryz.underlying36
  rw [run_slice_l w 36 (some ⟨g, 0, none⟩) n n (by rw [h]; rfl) .i64 m (by omega) (by omega)]
  have h2 : (sizeOf (Tryz.prog.elem 36)).run Tryz.prog w = .ok 1 w := by go_simp
  rw [h2]
  simp only [Result.andThen, sliced, if_neg (by omega : ¬ n = m), Nat.mul_one, Option.map_some, Int.toNat_natCast]
  by_cases h0 : m = 0
  · subst h0
    simp [Addr.add]
  · simp [Addr.add, h0]

set_option maxRecDepth 100000 in
theorem slice41_h {g n c m : Nat} (w : World) (hm : m ≤ c) : (Instr.slice 36 (.slice (some ⟨g, 0, none⟩) n c) none (some (.int .i64 m)) none).run Tryz.prog w = .ok (.slice (some ⟨g, 0, none⟩) m c) w := by
  have h := Tryz.underlying36
  rw [run_slice_h w 36 (some ⟨g, 0, none⟩) n c (by rw [h]; rfl) .i64 m (by omega) (by omega)]
  have h2 : (sizeOf (Tryz.prog.elem 36)).run Tryz.prog w = .ok 1 w := by go_simp
  rw [h2]
  simp [Result.andThen, sliced, Addr.add]

theorem add_zero_none (b j : Nat) : Addr.add ⟨b, 0, none⟩ j = ⟨b, j, none⟩ := by
  unfold Addr.add
  split
  · rename_i h
    simp_all
  · simp

/-- How the row stands: m times -1, then anything. -/
def RepP (n m : Nat) (cur : List Value) : Prop := cur.length = n ∧ m ≤ n ∧ ∀ j, j < m → cur[j]? = some (.int .i64 (-1))

theorem rep_step {n m c : Nat} {cur : List Value} (h : RepP n m cur) (hc : c = min m (n - m)) : RepP n (m + c) (splice cur m (List.replicate c (.int .i64 (-1)))) := by
  obtain ⟨h1, h2, h3⟩ := h
  refine ⟨by rw [length_splice _ _ _ (by rw [List.length_replicate]; omega)]; exact h1, by omega, fun j hj => ?_⟩
  unfold splice
  by_cases hjm : j < m
  · rw [List.getElem?_append_left (by rw [List.length_take]; omega), List.getElem?_take, if_pos hjm]
    exact h3 j hjm
  · have htl : (cur.take m).length = m := by rw [List.length_take]; omega
    rw [List.getElem?_append_right (by omega), htl, List.getElem?_append_left (by rw [List.length_replicate]; omega), List.getElem?_replicate, if_pos (by omega)]

set_option maxRecDepth 100000 in
set_option maxHeartbeats 2000000 in
theorem repeat_any (n b : Nat) (w : World) (hn : n ≤ 1000000) (hb : b < w.heap.size) (hc : w.cell? ⟨b, 0, none⟩ = some (.int .i64 (-1))) :
    Calls Tryz.prog 27 #[.slice (some ⟨b, 0, none⟩) 1 1, .int .i64 n] w fun e w' => ∃ g, w.heap.size ≤ g ∧ e = .returned (.slice (some ⟨g, 0, none⟩) n n) ∧ w'.ownsRow w.heap.size 3 1 (.slice (some ⟨g, 0, none⟩) n n) n (intCells (List.replicate n (-1))) ∧ Below w.heap.size w w' := by
  have CM := Lib.hid (fun w => Tryz.bits_Mul 1 n (by omega) (by omega) w)
  rw [Nat.one_mul, Nat.div_eq_of_lt (by omega), Nat.mod_eq_of_lt (by omega)] at CM
  obtain ⟨i0, hi, hz0, hz1, hz2⟩ := info_parts info3
  have hmk := run_make w 36 3 i0 (.int .i64 0) Tryz.underlying36 hi hz0 .i64 .i64 n n (by omega) (Int.le_refl _) (by rw [hz2]; show (8 : Int) * n ≤ _; omega) (by omega)
  rw [hz1, Nat.mul_one, Int.toNat_natCast] at hmk
  obtain ⟨Z, hZ⟩ : ∃ Z : List Value, Z = (madeCells (Value.int IntKind.i64 0).cells n).toList := ⟨_, rfl⟩
  have hZl : Z.length = n := by rw [hZ]; simp [size_madeCells]
  have hZa : madeCells (Value.int IntKind.i64 0).cells n = Z.toArray := by rw [hZ]
  rw [hZa] at hmk
  clear hZ hZa
  have hnew := World.alloc_heap_new w (.cells Z.toArray 3)
  have hbn := (Below.refl w.heap.size w).alloc (Nat.le_refl _) (.cells Z.toArray 3)
  have hcn := (hbn.cell (p := ⟨b, 0, none⟩) hb).trans hc
  by_cases h0 : n = 0
  · subst h0
    obtain rfl : Z = [] := List.eq_nil_of_length_eq_zero hZl
    have hcop := fun ty => run_copy_none (P := Tryz.prog) (w.alloc (.cells ([] : List Value).toArray 3)) 36 36 ty 3 (some ⟨w.heap.size, 0, none⟩) (some ⟨b, 0, none⟩) 0 0 1 1 Tryz.underlying36 size3 rfl
    have hmk0 : (Instr.makeSlice 36 (.int .i64 0) (.int .i64 0)).run Tryz.prog w = .ok (.slice (some ⟨w.heap.size, 0, none⟩) 0 0) (w.alloc (.cells ([] : List Value).toArray 3)) := hmk
    have HBN := Lib.hid hbn
    have HNEW := Lib.hid hnew
    clear hbn hnew hcn hc hZl
    go_enter Tryz.func27, Tryz.ntmps27
    go_wp2_with (go_at_call 57; refine (CM.out _).mono ?_; rintro e w1 ⟨rfl, hw⟩; obtain rfl := hw.symm)
    go_loopw [8] (fun m wr => m = .int .i64 0 ∧ wr = w.alloc (.cells ([] : List Value).toArray 3)) (fun _ _ => 0)
    case atStart => exact ⟨rfl, rfl⟩
    case round =>
      obtain ⟨rfl, rfl⟩ := hrel
      go_wp2_with fail
      go_ret
      refine ⟨w.heap.size, Nat.le_refl _, rfl, ⟨rfl, .inr ⟨w.heap.size, 0, #[], rfl, Nat.le_refl _, HNEW.out, Nat.le_refl _, by unfold maxLen; omega, rfl, rfl⟩⟩, HBN.out⟩
  · have HZ0 : RepP n 1 (splice Z 0 [.int .i64 (-1)]) := by
      refine ⟨by rw [length_splice _ _ _ (by simp; omega)]; exact hZl, by omega, fun j hj => ?_⟩
      obtain rfl : j = 0 := by omega
      rfl
    have HZ := Lib.hid HZ0
    obtain ⟨w2, hcop, hg2, hb2⟩ : ∃ w2, (∀ ty, (Builtin.copy_ #[36, 36] ty #[.slice (some ⟨w.heap.size, 0, none⟩) n n, .slice (some ⟨b, 0, none⟩) 1 1]).run Tryz.prog (w.alloc (.cells Z.toArray 3)) = .ok (.int .i64 1) w2) ∧ w2.heap[w.heap.size]? = some (.cells (splice Z 0 [.int .i64 (-1)]).toArray 3 (0, 0)) ∧ Below w.heap.size w w2 := by
      have hrun := fun ty => run_copy_row (P := Tryz.prog) (w.alloc (.cells Z.toArray 3)) 36 36 ty 3 w.heap.size 0 n n ⟨b, 0, none⟩ 1 1 Z.toArray 3 [.int .i64 (-1)] Tryz.underlying36 size3 hnew (by show 1 = min 1 n; omega) (fun j v hj => by
        match j, hj with
        | 0, hj =>
          simp only [List.getElem?_cons_zero, Option.some.injEq] at hj
          subst hj
          simpa [Addr.add] using hcn) (by simp; omega) (by intro v hv; obtain rfl := List.mem_singleton.1 hv; rfl)
      refine ⟨_, hrun, ?_, below_setRow hbn (Nat.le_refl _) _⟩
      have := setRow_heap (w.alloc (.cells Z.toArray 3)) w.heap.size Z.toArray (splice Z 0 [.int .i64 (-1)]).toArray 3 (0, 0) hnew
      simpa [splice] using this
    have HB2 := Lib.hid hb2
    have HG2 := Lib.hid hg2
    clear hnew hbn hcn hc hZl hb2 hg2
    go_enter Tryz.func27, Tryz.ntmps27
    go_wp2_with (go_at_call 57; refine (CM.out _).mono ?_; rintro e w1 ⟨rfl, hw⟩; obtain rfl := hw.symm)
    go_loopw [8] (fun m wr => ∃ (k : Nat) (cur : List Value), 0 < k ∧ k ≤ n ∧ m = .int .i64 k ∧ Hid (RepP n k cur) ∧ Hid (wr.heap[w.heap.size]? = some (.cells cur.toArray 3 (0, 0))) ∧ Hid (Below w.heap.size w wr)) (fun m _ => n - (intOf m).toNat)
    case atStart => exact ⟨1, _, by omega, by omega, rfl, HZ, HG2, HB2⟩
    case round =>
      obtain ⟨k, cur, hk0, hkn, rfl, HR, HG, HB⟩ := hrel
      by_cases hlt : k < n
      · obtain ⟨c, hcc⟩ : ∃ c, c = min k (n - k) := ⟨_, rfl⟩
        have HST := Lib.hid (rep_step HR.out hcc)
        have hc1 : 0 < c := by omega
        have hc2 : k + c ≤ n := by omega
        have hs1 : ∀ w', (Instr.slice 36 (.slice (some ⟨w.heap.size, 0, none⟩) n n) (some (.int .i64 k)) none none).run Tryz.prog w' = .ok (.slice (some ⟨w.heap.size, k, none⟩) (n - k) (n - k)) w' := fun w' => slice41_l w' hlt
        have hs2 : ∀ w', (Instr.slice 36 (.slice (some ⟨w.heap.size, 0, none⟩) n n) none (some (.int .i64 k)) none).run Tryz.prog w' = .ok (.slice (some ⟨w.heap.size, 0, none⟩) k n) w' := fun w' => slice41_h w' hkn
        have LMIN : Hid ((List.replicate c (Value.int .i64 (-1))).length = Nat.min k (n - k)) := Lib.hid (by rw [List.length_replicate]; exact hcc)
        have LPOS : Hid (∀ j v, (List.replicate c (Value.int .i64 (-1)))[j]? = some v → wr.drew.cell? ((⟨w.heap.size, 0, none⟩ : Addr).add j) = some v) := Lib.hid (fun j v hj => by
          rw [List.getElem?_replicate] at hj
          split at hj
          · rename_i hjc
            cases hj
            have e : Addr.add ⟨w.heap.size, 0, none⟩ j = ⟨w.heap.size, j, none⟩ := by rw [add_zero_none]
            rw [e]
            have := cell_of_row wr w.heap.size j cur.toArray 3 (0, 0) HG.out
            rw [show wr.drew.cell? ⟨w.heap.size, j, none⟩ = wr.cell? ⟨w.heap.size, j, none⟩ from rfl, this]
            simpa using HR.out.2.2 j (by omega)
          · cases hj)
        have LFIT : Hid (k + (List.replicate c (Value.int .i64 (-1))).length ≤ cur.length) := Lib.hid (by rw [List.length_replicate, HR.out.1]; exact hc2)
        have LONE : Hid (∀ v ∈ List.replicate c (Value.int .i64 (-1)), v.oneCell' = true) := Lib.hid (by intro v hv; obtain rfl := List.eq_of_mem_replicate hv; rfl)
        have LBD := Lib.hid HB.out.drew
        have LGD : Hid (wr.drew.heap[w.heap.size]? = some (.cells cur.toArray 3 (0, 0))) := HG
        have LCL := Lib.hid (List.length_replicate (n := c) (a := Value.int .i64 (-1)))
        clear hcc
        go_wp2_with fail
        go_region_law (refine step_copy_splice rfl (.tmp 41) (.tmp 44) 36 36 rfl 3 Tryz.underlying36 size3 (some ⟨w.heap.size, k, none⟩) (some ⟨w.heap.size, 0, none⟩) (n - k) (n - k) k n (by simp [Act.eval, Act.put]) (by simp [Act.eval, Act.put]) w.heap.size k cur 3 LGD.out (List.replicate c (Value.int .i64 (-1))) LMIN.out (fun _ => ⟨rfl, _, rfl, LPOS.out⟩) LFIT.out LONE.out w.heap.size w LBD.out (Nat.le_refl _) ?_; intro w4 hg4 hb4; rw [LCL.out])
        have HG4 : Hid _ := hg4
        have HB4 := Lib.hid hb4
        clear hg4 hb4
        go_wp2_with fail
        have hkw : IntKind.i64.wrap ((k : Int) + c) = ((k + c : Nat) : Int) := by rw [IntKind.wrap_i64]; omega
        have hkc : Value.int .i64 (IntKind.i64.wrap ((k : Int) + c)) = .int .i64 ((k + c : Nat) : Int) := by rw [hkw]
        refine ⟨⟨.int .i64 ((k + c : Nat) : Int), .int .i64 k, .slice (some ⟨w.heap.size, 0, none⟩) n n, .int .i64 n, .bool true, .int .i64 k, .slice (some ⟨w.heap.size, 0, none⟩) n n, .int .i64 k, .slice (some ⟨w.heap.size, k, none⟩) (n - k) (n - k), .slice (some ⟨w.heap.size, 0, none⟩) n n, .int .i64 k, .slice (some ⟨w.heap.size, 0, none⟩) k n, .int .i64 c, .int .i64 ((k + c : Nat) : Int), ⟨k + c, _, by omega, hc2, rfl, HST, HG4, HB4⟩, ?_⟩, ?_⟩
        · rw [← hkc]
          rfl
        · show n - (intOf (Value.int .i64 (IntKind.i64.wrap ((k : Int) + c)))).toNat < n - (intOf (Value.int .i64 k)).toNat
          rw [hkc]
          simp [intOf]
          omega
      · obtain rfl : k = n := by omega
        go_wp2_with fail
        go_ret
        refine ⟨w.heap.size, Nat.le_refl _, rfl, ?_, HB.out⟩
        have hcur : cur = intCells (List.replicate k (-1)) := by
          refine List.ext_getElem? fun j => ?_
          unfold intCells
          by_cases hjk : j < k
          · rw [HR.out.2.2 j hjk, List.getElem?_map, List.getElem?_replicate, if_pos hjk]
            rfl
          · rw [List.getElem?_eq_none (by rw [HR.out.1]; omega), List.getElem?_eq_none (by simp; omega)]
        rw [← hcur]
        refine ⟨by rw [HR.out.1, Nat.mul_one], .inr ⟨w.heap.size, k, cur.toArray, rfl, Nat.le_refl _, HG.out, Nat.le_refl _, by unfold maxLen; omega, by rw [List.size_toArray, HR.out.1, Nat.mul_one], ?_⟩⟩
        rw [List.take_of_length_le]
        rw [Nat.mul_one]
        show cur.length ≤ k
        rw [HR.out.1]
        exact Nat.le_refl _
end Go.Proofs.YtjadjmkbjolklaaGreatDoor
