/- Differences: the lines and changes of two texts, and what leads from one to the other and back. -/
import Derived.Test.YtjadjmkbjolklaaGreatDoorLow
import Derived.Laws.BitsLemmas
import Derived.Test.YtjadjmkbjolklaaGreatDoorAwakeB
import Derived.Lib.ConvBytes
import Derived.Lib.AtoiErrMem
import Derived.Test.YtjadjmkbjolklaaGreatDoorSplA
import Derived.Test.YtjadjmkbjolklaaGreatDoorBase
namespace Go.Proofs.YtjadjmkbjolklaaGreatDoor
open Go.RowKit

/-- How many bytes at the beginning of two lists are the same. -/
def headP : List UInt8 → List UInt8 → Nat
  | x :: r, y :: r' => if x = y then headP r r' + 1 else 0
  | _, _ => 0

theorem headP_le : ∀ l m : List UInt8, headP l m ≤ l.length ∧ headP l m ≤ m.length
  | [], m => by simp [headP]
  | x :: r, [] => by simp [headP]
  | x :: r, y :: r' => by
    have := headP_le r r'
    rw [headP]
    split
    · simp only [List.length_cons]; omega
    · simp

theorem headP_step (l m : List UInt8) (k : Nat) (x y : UInt8) (hx : l[k]? = some x) (hy : m[k]? = some y) :
    headP (l.drop k) (m.drop k) = if x = y then headP (l.drop (k + 1)) (m.drop (k + 1)) + 1 else 0 := by
  obtain ⟨h1, rfl⟩ := List.getElem?_eq_some_iff.1 hx
  obtain ⟨h2, rfl⟩ := List.getElem?_eq_some_iff.1 hy
  rw [List.drop_eq_getElem_cons h1, List.drop_eq_getElem_cons h2, headP]

theorem headP_end (l m : List UInt8) (k : Nat) (h : l.length ≤ k ∨ m.length ≤ k) : headP (l.drop k) (m.drop k) = 0 := by
  rcases h with h | h
  · rw [List.drop_eq_nil_of_le h]
    rfl
  · rw [List.drop_eq_nil_of_le h]
    cases l.drop k <;> rfl

/-- A slice value that holds bytes, in a block below B. -/
def BIn (W : World) (B : Nat) (v : Value) (l : List UInt8) : Prop :=
  ∃ A c, v = .slice A l.length c ∧ ∀ i (x : UInt8), l[i]? = some x → ∃ b off, A = some ⟨b, off, none⟩ ∧ b < B ∧ W.cell? ⟨b, off + i, none⟩ = some (.int .u8 x.toNat)

theorem same_any (a b : Int) (w : World) : Calls Tryz.prog 30 #[.int .u8 a, .int .u8 b] w fun e w' => e = .returned (.bool (a == b)) ∧ w = w' := by
  go_enter Tryz.func30, Tryz.ntmps30
  go_wp2
  go_ret
  exact ⟨rfl, rfl⟩

set_option maxRecDepth 100000 in
set_option maxHeartbeats 2000000 in
theorem heads_any (v v' : Value) (l m : List UInt8) (w : World) (hl : l.length ≤ 140737488355328) (hm : m.length ≤ 140737488355328) (hv : BIn w w.heap.size v l) (hv' : BIn w w.heap.size v' m) :
    Calls Tryz.prog 31 #[v, v', .func (.func 30) #[] #[]] w fun e w' => e = .returned (.int .i64 (headP l m)) ∧ Below w.heap.size w w' := by
  obtain ⟨A, c, rfl, hA⟩ := hv
  obtain ⟨A', c', rfl, hA'⟩ := hv'
  have HA := Lib.hid hA
  have HA' := Lib.hid hA'
  clear hA hA'
  have hs : headP l m = 0 + headP (l.drop 0) (m.drop 0) := by simp
  go_enter Tryz.func31, Tryz.ntmps31
  go_wp2
  go_loopw [15] (fun i wr => ∃ (k : Nat), k ≤ l.length ∧ k ≤ m.length ∧ i = .int .i64 k ∧ Hid (headP l m = k + headP (l.drop k) (m.drop k)) ∧ Below w.heap.size w wr) (fun i _ => l.length - (intOf i).toNat)
  case atStart => exact ⟨0, by omega, by omega, rfl, Lib.hid hs, Below.refl _ _⟩
  case round =>
    obtain ⟨k, hk, hk', rfl, HK, hb⟩ := hrel
    by_cases hlt : k < l.length ∧ k < m.length
    · obtain ⟨x, hx⟩ : ∃ x, l[k]? = some x := ⟨_, List.getElem?_eq_getElem hlt.1⟩
      obtain ⟨y, hy⟩ : ∃ y, m[k]? = some y := ⟨_, List.getElem?_eq_getElem hlt.2⟩
      obtain ⟨b, off, rfl, hB, g1⟩ := HA.out k x hx
      obtain ⟨b', off', rfl, hB', g1'⟩ := HA'.out k y hy
      have HX := Lib.hid hx
      have HY := Lib.hid hy
      have d1 := (hb.cell (p := ⟨b, _, none⟩) hB).trans g1
      have d1' := (hb.cell (p := ⟨b', _, none⟩) hB').trans g1'
      obtain ⟨hlt1, hlt2⟩ := hlt
      clear g1 g1' hx hy
      by_cases hxy : x = y
      · have HXY := Lib.hid hxy
        have C73 : ∀ w, Calls Tryz.prog 30 #[.int .u8 x.toNat, .int .u8 y.toNat] w fun e w' => e = .returned (.bool true) ∧ w' = w := fun w => (same_any _ _ w).mono (by rintro e w' ⟨rfl, rfl⟩; exact ⟨ret_bool (by rw [hxy]; simp), rfl⟩)
        clear hxy
        go_wp2_with fail
        go_quiet (exact Calls.quiet_of_same (C73 _))
        go_wp2
        refine ⟨⟨k + 1, by omega, by omega, by go_num, Lib.hid ?_, below_drewN hb _⟩, by simp [intOf]; omega⟩
        rw [HK.out, headP_step l m k x y HX.out HY.out, if_pos HXY.out]
        omega
      · have HXY := Lib.hid hxy
        have C73 : ∀ w, Calls Tryz.prog 30 #[.int .u8 x.toNat, .int .u8 y.toNat] w fun e w' => e = .returned (.bool false) ∧ w' = w := fun w => (same_any _ _ w).mono (by rintro e w' ⟨rfl, rfl⟩; exact ⟨ret_bool (by rw [beq_eq_false_iff_ne]; intro e; exact hxy (UInt8.toNat_inj.1 (by omega))), rfl⟩)
        clear hxy
        go_wp2_with fail
        go_quiet (exact Calls.quiet_of_same (C73 _))
        go_wp2
        go_ret
        refine ⟨ret_int ?_, below_drewN hb _⟩
        rw [HK.out, headP_step l m k x y HX.out HY.out, if_neg HXY.out]
        rfl
    · go_wp2
      go_ret
      refine ⟨ret_int ?_, hb⟩
      rw [HK.out, headP_end l m k (by omega)]
      omega
set_option maxRecDepth 100000 in
set_option maxHeartbeats 2000000 in
theorem tails_any (v v' : Value) (l m : List UInt8) (w : World) (hl : l.length ≤ 140737488355328) (hm : m.length ≤ 140737488355328) (hv : BIn w w.heap.size v l) (hv' : BIn w w.heap.size v' m) :
    Calls Tryz.prog 32 #[v, v', .func (.func 30) #[] #[]] w fun e w' => e = .returned (.int .i64 (headP l.reverse m.reverse)) ∧ Below w.heap.size w w' := by
  obtain ⟨A, c, rfl, hA⟩ := hv
  obtain ⟨A', c', rfl, hA'⟩ := hv'
  have HA := Lib.hid hA
  have HA' := Lib.hid hA'
  clear hA hA'
  have hs : headP l.reverse m.reverse = 0 + headP (l.reverse.drop 0) (m.reverse.drop 0) := by simp
  go_enter Tryz.func32, Tryz.ntmps32
  go_wp2
  go_loopw [15] (fun i wr => ∃ (k : Nat), k ≤ l.length ∧ k ≤ m.length ∧ i = .int .i64 k ∧ Hid (headP l.reverse m.reverse = k + headP (l.reverse.drop k) (m.reverse.drop k)) ∧ Below w.heap.size w wr) (fun i _ => l.length - (intOf i).toNat)
  case atStart => exact ⟨0, by omega, by omega, rfl, Lib.hid hs, Below.refl _ _⟩
  case round =>
    obtain ⟨k, hk, hk', rfl, HK, hb⟩ := hrel
    by_cases hlt : k < l.length ∧ k < m.length
    · obtain ⟨x, hx⟩ : ∃ x, l[l.length - 1 - k]? = some x := ⟨_, List.getElem?_eq_getElem (by omega)⟩
      obtain ⟨y, hy⟩ : ∃ y, m[m.length - 1 - k]? = some y := ⟨_, List.getElem?_eq_getElem (by omega)⟩
      obtain ⟨b, off, rfl, hB, g1⟩ := HA.out _ x hx
      obtain ⟨b', off', rfl, hB', g1'⟩ := HA'.out _ y hy
      have HX : Hid (l.reverse[k]? = some x) := Lib.hid (by rw [List.getElem?_reverse hlt.1]; exact hx)
      have HY : Hid (m.reverse[k]? = some y) := Lib.hid (by rw [List.getElem?_reverse hlt.2]; exact hy)
      have w1 : IntKind.i64.wrap ((l.length : Int) - 1) = (l.length : Int) - 1 := by rw [IntKind.wrap_i64]; omega
      have w1' : IntKind.i64.wrap ((m.length : Int) - 1) = (m.length : Int) - 1 := by rw [IntKind.wrap_i64]; omega
      obtain ⟨n, hn⟩ : ∃ n, n = l.length - 1 - k := ⟨_, rfl⟩
      obtain ⟨n', hn'⟩ : ∃ n, n = m.length - 1 - k := ⟨_, rfl⟩
      rw [← hn] at g1
      rw [← hn'] at g1'
      have w2 : IntKind.i64.wrap ((l.length : Int) - 1 - k) = n := by rw [IntKind.wrap_i64]; omega
      have w2' : IntKind.i64.wrap ((m.length : Int) - 1 - k) = n' := by rw [IntKind.wrap_i64]; omega
      have hn1 : n < l.length := by omega
      have hn1' : n' < m.length := by omega
      clear hn hn'
      have d1 := (hb.cell (p := ⟨b, _, none⟩) hB).trans g1
      have d1' := (hb.cell (p := ⟨b', _, none⟩) hB').trans g1'
      obtain ⟨hlt1, hlt2⟩ := hlt
      clear g1 g1' hx hy
      by_cases hxy : x = y
      · have HXY := Lib.hid hxy
        have C73 : ∀ w, Calls Tryz.prog 30 #[.int .u8 x.toNat, .int .u8 y.toNat] w fun e w' => e = .returned (.bool true) ∧ w' = w := fun w => (same_any _ _ w).mono (by rintro e w' ⟨rfl, rfl⟩; exact ⟨ret_bool (by rw [hxy]; simp), rfl⟩)
        clear hxy
        go_wp2_with fail
        go_quiet (exact Calls.quiet_of_same (C73 _))
        go_wp2
        refine ⟨⟨k + 1, by omega, by omega, by go_num, Lib.hid ?_, below_drewN hb _⟩, by simp [intOf]; omega⟩
        rw [HK.out, headP_step l.reverse m.reverse k x y HX.out HY.out, if_pos HXY.out]
        omega
      · have HXY := Lib.hid hxy
        have C73 : ∀ w, Calls Tryz.prog 30 #[.int .u8 x.toNat, .int .u8 y.toNat] w fun e w' => e = .returned (.bool false) ∧ w' = w := fun w => (same_any _ _ w).mono (by rintro e w' ⟨rfl, rfl⟩; exact ⟨ret_bool (by rw [beq_eq_false_iff_ne]; intro e; exact hxy (UInt8.toNat_inj.1 (by omega))), rfl⟩)
        clear hxy
        go_wp2_with fail
        go_quiet (exact Calls.quiet_of_same (C73 _))
        go_wp2
        go_ret
        refine ⟨ret_int ?_, below_drewN hb _⟩
        rw [HK.out, headP_step l.reverse m.reverse k x y HX.out HY.out, if_neg HXY.out]
        rfl
    · go_wp2
      go_ret
      refine ⟨ret_int ?_, hb⟩
      rw [HK.out, headP_end l.reverse m.reverse k (by simp; omega)]
      omega
end Go.Proofs.YtjadjmkbjolklaaGreatDoor
namespace Go.Proofs.YtjadjmkbjolklaaGreatDoor
open Go.RowKit

/-- The splice that leads from a text to another one. -/
def diffSpl (a b : ByteArray) : Spl :=
  let f := headP a.data.toList b.data.toList
  let n := headP (a.data.toList.drop f).reverse (b.data.toList.drop f).reverse
  ⟨f, (a.size : Int) - n, b.extract f (b.size - n)⟩

/-- What lex.Diff returns. -/
def diffRes (a b : ByteArray) : List Spl × Int :=
  if (textErr a).2 ≠ 0 then ([], (textErr a).2) else if (textErr b).2 ≠ 0 then ([], (textErr b).2) else if a = b then ([], 0) else ([diffSpl a b], 0)

theorem splIn_nil (W : World) (B : Nat) : SplIn W B (.slice none 0 0) [] := ⟨_, _, rfl, fun i x h => by simp at h⟩

theorem BIn.more {W : World} {B B' : Nat} {v : Value} {l : List UInt8} (h : BIn W B v l) (hB : B ≤ B') : BIn W B' v l := by
  obtain ⟨A, c, rfl, hA⟩ := h
  refine ⟨A, c, rfl, fun i x hx => ?_⟩
  obtain ⟨b, off, rfl, h0, h1⟩ := hA i x hx
  exact ⟨b, off, rfl, by omega, h1⟩

theorem BIn.below {W W' : World} {B : Nat} {v : Value} {l : List UInt8} (h : BIn W B v l) (hb : Below B W W') : BIn W' B v l := by
  obtain ⟨A, c, rfl, hA⟩ := h
  refine ⟨A, c, rfl, fun i x hx => ?_⟩
  obtain ⟨b, off, rfl, hB, h1⟩ := hA i x hx
  exact ⟨b, off, rfl, hB, (hb.cell (p := ⟨b, _, none⟩) hB).trans h1⟩

/-- The bytes of a text, as a new slice. -/
theorem bytes_bin (w : World) (s : ByteArray) (c : Nat) : BIn (Lib.bytesWorld w 5 s) (w.heap.size + 1) (.slice (some ⟨w.heap.size, 0, none⟩) s.size c) s.data.toList := by
  refine ⟨some ⟨w.heap.size, 0, none⟩, c, by simp, fun i x hx => ?_⟩
  obtain ⟨hi, rfl⟩ := List.getElem?_eq_some_iff.1 hx
  refine ⟨_, _, rfl, by omega, ?_⟩
  have hi' : i < s.size := by simpa using hi
  rw [Nat.zero_add, Lib.bytesWorld_cell w 5 s i hi', List.getD, List.getElem?_eq_getElem hi]
  rfl

theorem conv80 (s : ByteArray) (w : World) : (convert 9 61 (.string s)).run Tryz.prog w = .ok (.slice (some ⟨w.heap.size, 0, none⟩) s.size (grownCap w s.size 0 5)) (Lib.bytesWorld w 5 s) :=
  Lib.run_convert_string_bytes w 9 61 5 s Tryz.underlying9 Tryz.underlying61 Tryz.underlying5

theorem two_bin (w : World) (s t : ByteArray) (c c' : Nat) :
    BIn (Lib.bytesWorld (Lib.bytesWorld w 5 s) 5 t) (Lib.bytesWorld (Lib.bytesWorld w 5 s) 5 t).heap.size (.slice (some ⟨w.heap.size, 0, none⟩) s.size c) s.data.toList ∧
    BIn (Lib.bytesWorld (Lib.bytesWorld w 5 s) 5 t) (Lib.bytesWorld (Lib.bytesWorld w 5 s) 5 t).heap.size (.slice (some ⟨(Lib.bytesWorld w 5 s).heap.size, 0, none⟩) t.size c') t.data.toList ∧
    Below w.heap.size w (Lib.bytesWorld (Lib.bytesWorld w 5 s) 5 t) := by
  have b1 := Lib.bytesWorld_below w 5 s
  have b2 := Lib.bytesWorld_below (Lib.bytesWorld w 5 s) 5 t
  have z1 := Lib.bytesWorld_size w 5 s
  have z2 := Lib.bytesWorld_size (Lib.bytesWorld w 5 s) 5 t
  refine ⟨((bytes_bin w s c).below (b2.mono (by omega))).more (by omega), ?_, b1.trans (b2.mono (by omega))⟩
  rw [z2]
  exact bytes_bin _ t c'

theorem bin_fst (w : World) (s t : ByteArray) (c n g : Nat) (hn : n = s.size) (hg : g = w.heap.size) :
    BIn (Lib.bytesWorld (Lib.bytesWorld w 5 s) 5 t) (Lib.bytesWorld (Lib.bytesWorld w 5 s) 5 t).heap.size (.slice (some ⟨g, 0, none⟩) n c) s.data.toList := by
  rw [hn, hg]
  exact (two_bin w s t c 0).1
theorem bin_snd (w : World) (s t : ByteArray) (c n g : Nat) (hn : n = t.size) (hg : g = (Lib.bytesWorld w 5 s).heap.size) :
    BIn (Lib.bytesWorld (Lib.bytesWorld w 5 s) 5 t) (Lib.bytesWorld (Lib.bytesWorld w 5 s) 5 t).heap.size (.slice (some ⟨g, 0, none⟩) n c) t.data.toList := by
  rw [hn, hg]
  exact (two_bin w s t 0 c).2.1

theorem ext_drop (a : ByteArray) (f : Nat) : (a.extract f a.size).data.toList = a.data.toList.drop f := by
  simp only [ByteArray.data_extract, Array.toList_extract, List.extract_eq_take_drop]
  exact List.take_of_length_le (by simp)

theorem diffSpl_eq {a b ea eb : ByteArray} {f n : Nat} (hf : headP a.data.toList b.data.toList = f) (ha : ea = a.extract f a.size) (hb : eb = b.extract f b.size) (hn : headP ea.data.toList.reverse eb.data.toList.reverse = n) :
    diffSpl a b = ⟨f, (a.size : Int) - n, b.extract f (b.size - n)⟩ := by
  unfold diffSpl
  rw [ha, hb, ext_drop, ext_drop] at hn
  simp only [hf, hn]

theorem below3 {B : Nat} {w w2 X w3 : World} (h : Below B w w2) (hB : B ≤ w.heap.size) (h2 : Below w2.drew.heap.size w2.drew X) (h3 : Below X.heap.size X w3) : Below B w w3 := by
  have z1 := h.size
  have z2 := h2.size
  rw [World.size_drew] at z2
  exact (h.drew.trans (h2.mono (by rw [World.size_drew]; omega))).trans (h3.mono (by omega))

theorem strs_new (w : World) (a b : ByteArray) : (w.alloc (.cells #[.string a, .string b] 9)).heap[w.heap.size]? = some (.cells #[.string a, .string b] 9 (0, 0)) := World.alloc_heap_new w _

set_option maxRecDepth 100000 in
set_option maxHeartbeats 2000000 in
theorem diff_any (a b : ByteArray) (w : World) (ha : a.size ≤ 140737488355328) (hb : b.size ≤ 140737488355328) :
    Calls Tryz.prog 11 #[.string a, .string b] w fun e w' => ∃ v, e = .returned (.tuple #[v, .int .i64 (diffRes a b).2]) ∧ Below w.heap.size w w' ∧ SplIn w' w'.heap.size v (diffRes a b).1 := by
  have hnew := strs_new w a b
  have hbw := (Below.refl w.heap.size w).alloc (Nat.le_refl _) (.cells #[.string a, .string b] 9)
  have hz : (w.alloc (.cells #[.string a, .string b] 9)).heap.size = w.heap.size + 1 := by simp
  go_enter Tryz.func11, Tryz.ntmps11
  go_wp2
  obtain ⟨W1, hW1⟩ : ∃ W1, W1 = w.alloc (.cells #[.string a, .string b] 9) := ⟨_, rfl⟩
  rw [← hW1] at hnew hbw hz ⊢
  clear hW1
  go_loopw [17] (fun i wr => ∃ (k : Nat), k ≤ 2 ∧ i = .int .i64 k ∧ wr.heap[w.heap.size]? = some (.cells #[.string a, .string b] 9 (0, 0)) ∧ Hid (1 ≤ k → (textErr a).2 = 0) ∧ Hid (2 ≤ k → (textErr b).2 = 0) ∧ Below w.heap.size w wr) (fun i _ => 2 - (intOf i).toNat)
  case atStart => exact ⟨0, by omega, rfl, hnew, Lib.hid (by omega), Lib.hid (by omega), hbw⟩
  case round =>
    obtain ⟨k, hk, rfl, hrow, HA, HB, hbe⟩ := hrel
    have g0 := cell_of_row wr w.heap.size 0 _ 9 (0, 0) hrow
    have g1 := cell_of_row wr w.heap.size 1 _ 9 (0, 0) hrow
    have c0 : wr.cell? ⟨w.heap.size, 0, none⟩ = some (.string a) := g0
    have c1 : wr.cell? ⟨w.heap.size, 1, none⟩ = some (.string b) := g1
    clear g0 g1
    have hlt := (Array.getElem?_eq_some_iff.1 hrow).1
    obtain rfl | rfl | rfl : k = 0 ∨ k = 1 ∨ k = 2 := by omega
    · by_cases he : (textErr a).2 = 0
      · have HE := Lib.hid he
        have heb : ((textErr a).2 != 0) = false := by simpa using he
        clear he
        go_wp2_with (go_at_call 15; refine (textError_any a _ (le_max ha)).mono ?_; rintro e w1 ⟨rfl, hb1⟩)
        exact ⟨⟨1, by omega, rfl, (hb1.block _ hlt).trans hrow, Lib.hid (fun _ => HE.out), Lib.hid (by omega), hbe.trans (hb1.mono hbe.size)⟩, by simp [intOf]⟩
      · have HE := Lib.hid he
        have heb : ((textErr a).2 != 0) = true := by simpa using he
        clear he
        go_wp2_with (go_at_call 15; refine (textError_any a _ (le_max ha)).mono ?_; rintro e w1 ⟨rfl, hb1⟩)
        go_ret2
        have hr : diffRes a b = ([], (textErr a).2) := by unfold diffRes; rw [if_pos HE.out]
        rw [hr]
        exact ⟨_, rfl, hbe.trans (hb1.mono hbe.size), splIn_nil _ _⟩
    · by_cases he : (textErr b).2 = 0
      · have HE := Lib.hid he
        have heb : ((textErr b).2 != 0) = false := by simpa using he
        clear he
        go_wp2_with (go_at_call 15; refine (textError_any b _ (le_max hb)).mono ?_; rintro e w1 ⟨rfl, hb1⟩)
        exact ⟨⟨2, by omega, rfl, (hb1.block _ hlt).trans hrow, Lib.hid (fun _ => HA.out (by omega)), Lib.hid (fun _ => HE.out), hbe.trans (hb1.mono hbe.size)⟩, by simp [intOf]⟩
      · have HE := Lib.hid he
        have heb : ((textErr b).2 != 0) = true := by simpa using he
        clear he
        go_wp2_with (go_at_call 15; refine (textError_any b _ (le_max hb)).mono ?_; rintro e w1 ⟨rfl, hb1⟩)
        go_ret2
        have hr : diffRes a b = ([], (textErr b).2) := by unfold diffRes; rw [if_neg (by rw [HA.out (by omega)]; simp), if_pos HE.out]
        rw [hr]
        exact ⟨_, rfl, hbe.trans (hb1.mono hbe.size), splIn_nil _ _⟩
    · have hta := HA.out (by omega)
      have htb := HB.out (by omega)
      by_cases hab : a = b
      · have hr : diffRes a b = ([], 0) := by unfold diffRes; rw [if_neg (by rw [hta]; simp), if_neg (by rw [htb]; simp), if_pos hab]
        have HR := Lib.hid hr
        have hq : (a.toList == b.toList) = true := by rw [toList_beq]; simpa using hab
        clear hr hta htb hab
        go_wp2
        go_ret2
        rw [HR.out]
        exact ⟨_, rfl, hbe, splIn_nil _ _⟩
      · have hr : diffRes a b = ([diffSpl a b], 0) := by unfold diffRes; rw [if_neg (by rw [hta]; simp), if_neg (by rw [htb]; simp), if_neg hab]
        have HR := Lib.hid hr
        have hq : (a.toList == b.toList) = false := by rw [toList_beq]; simpa using hab
        clear hr hta htb hab
        have hca := conv80 a
        have hcb := conv80 b
        have hfl := headP_le a.data.toList b.data.toList
        go_wp2_with (go_at_call 31; refine (heads_any _ _ a.data.toList b.data.toList _ (by simpa using ha) (by simpa using hb) (two_bin wr a b _ (grownCap (Lib.bytesWorld wr 5 a) b.size 0 5)).1 (two_bin wr a b (grownCap wr a.size 0 5) _).2.1).mono ?_; rintro e w2 ⟨rfl, hb2⟩; have hB2 := (hbe.trans ((two_bin wr a b 0 0).2.2.mono hbe.size)).trans (hb2.mono (Nat.le_trans hbe.size (two_bin wr a b 0 0).2.2.size)); clear hb2)
        clear hca hcb
        generalize hf : headP a.data.toList b.data.toList = f at hfl ⊢
        have HF := Lib.hid hf
        have hfa : f ≤ a.size := by simpa using hfl.1
        have hfb : f ≤ b.size := by simpa using hfl.2
        clear hf hfl
        obtain ⟨ea, hea⟩ : ∃ ea, ea = a.extract f a.size := ⟨_, rfl⟩
        obtain ⟨eb, heb⟩ : ∃ eb, eb = b.extract f b.size := ⟨_, rfl⟩
        have hca : ∀ w, (convert 9 61 (.string (a.extract f a.size))).run Tryz.prog w = .ok (.slice (some ⟨w.heap.size, 0, none⟩) ea.size (grownCap w ea.size 0 5)) (Lib.bytesWorld w 5 ea) := fun w => by rw [hea]; exact conv80 _ w
        have hcb : ∀ w, (convert 9 61 (.string (b.extract f b.size))).run Tryz.prog w = .ok (.slice (some ⟨w.heap.size, 0, none⟩) eb.size (grownCap w eb.size 0 5)) (Lib.bytesWorld w 5 eb) := fun w => by rw [heb]; exact conv80 _ w
        have hla : ea.data.toList.length ≤ 140737488355328 := by rw [hea]; simp; omega
        have hlb : eb.data.toList.length ≤ 140737488355328 := by rw [heb]; simp; omega
        have HEA := Lib.hid hea
        have HEB := Lib.hid heb
        clear hea heb
        have hsz := hB2.size
        go_region_with (go_at_call 32; refine (tails_any _ _ ea.data.toList eb.data.toList _ hla hlb (by first | with_reducible exact bin_fst _ ea eb _ _ _ rfl (by simp) | with_reducible exact bin_snd _ eb ea _ _ _ rfl rfl) (by first | with_reducible exact bin_snd _ ea eb _ _ _ rfl rfl | with_reducible exact bin_fst _ eb ea _ _ _ rfl (by simp))).mono ?_; rintro e w3 ⟨rfl, hb3⟩)
        all_goals first
          | have HB3 := Lib.hid (below3 hB2 (Nat.le_refl _) (two_bin w2.drew ea eb 0 0).2.2 hb3)
          | have HB3 := Lib.hid (below3 hB2 (Nat.le_refl _) (two_bin w2.drew eb ea 0 0).2.2 hb3)
        all_goals clear hb3 hca hcb
        all_goals have hn := headP_le ea.data.toList.reverse eb.data.toList.reverse
        all_goals generalize hnn : headP ea.data.toList.reverse eb.data.toList.reverse = n at hn ⊢
        all_goals have HN := Lib.hid hnn
        all_goals have hn1 : n + f ≤ a.size := by have h := hn.1; rw [HEA.out] at h; simp at h; omega
        all_goals have hn2 : n + f ≤ b.size := by have h := hn.2; rw [HEB.out] at h; simp at h; omega
        all_goals clear hnn hn
        all_goals go_wp2
        all_goals go_ret2
        all_goals rw [HR.out, diffSpl_eq HF.out HEA.out HEB.out HN.out]
        all_goals refine ⟨_, rfl, HB3.out.alloc HB3.out.size _, ?_⟩
        all_goals have h := spl_new w3 ⟨f, (a.size : Int) - n, b.extract f (b.size - n)⟩
        all_goals rw [← World.size_alloc w3 (.cells #[.int .i64 f, .int .i64 ((a.size : Int) - n), .string (b.extract f (b.size - n))] 40)] at h
        all_goals exact h
end Go.Proofs.YtjadjmkbjolklaaGreatDoor
namespace Go.Proofs.YtjadjmkbjolklaaGreatDoor
open Go Go.RowKit

theorem headP_comm : ∀ l m : List UInt8, headP l m = headP m l
  | [], [] => rfl
  | [], y :: r' => rfl
  | x :: r, [] => rfl
  | x :: r, y :: r' => by
    rw [headP, headP, headP_comm r r']
    by_cases h : x = y
    · rw [if_pos h, if_pos h.symm]
    · rw [if_neg h, if_neg (fun e => h e.symm)]

theorem headP_take : ∀ l m : List UInt8, l.take (headP l m) = m.take (headP l m)
  | [], m => by simp [headP]
  | x :: r, [] => by simp [headP]
  | x :: r, y :: r' => by
    rw [headP]
    split
    · rename_i h
      rw [List.take_succ_cons, List.take_succ_cons, h, headP_take r r']
    · simp

theorem tail_drop (l m : List UInt8) : l.drop (l.length - headP l.reverse m.reverse) = m.drop (m.length - headP l.reverse m.reverse) := by
  have h := headP_take l.reverse m.reverse
  have h1 := congrArg List.reverse h
  rw [List.reverse_take, List.reverse_take, List.reverse_reverse, List.reverse_reverse] at h1
  simpa using h1

/-- All bytes of a text may stand in one. -/
theorem txt_all {s : ByteArray} : txt s = s.size ↔ ∀ j (h : j < s.size), inCls [1, 2, 3, 4, 5, 6, 7] s[j] = true := by
  constructor
  · intro h j hj
    exact (pastP_all _ s (s.size - 0) 0 rfl).1 j hj (by omega) (by show j < txt s; omega)
  · intro h
    rcases Nat.lt_or_ge (txt s) s.size with h1 | h1
    · have := (pastP_all (inCls [1, 2, 3, 4, 5, 6, 7]) s (s.size - 0) 0 rfl).2 h1
      exact absurd (h (pastP (inCls [1, 2, 3, 4, 5, 6, 7]) s 0) h1) (by rw [this]; simp)
    · have := txt_le s
      omega

theorem txt_mem {s : ByteArray} : txt s = s.size ↔ ∀ c ∈ s.data.toList, inCls [1, 2, 3, 4, 5, 6, 7] c = true := by
  rw [txt_all]
  constructor
  · intro h c hc
    obtain ⟨j, hj, rfl⟩ := List.getElem_of_mem hc
    exact h j (by simpa using hj)
  · intro h j hj
    exact h _ (by
      have : s[j] = s.data.toList[j]'(by simpa using hj) := rfl
      rw [this]
      exact List.getElem_mem _)

theorem textErr_zero {s : ByteArray} : (textErr s).2 = 0 ↔ s.size ≤ 2500 ∧ txt s = s.size := by
  have := txt_le s
  unfold textErr
  constructor
  · intro h
    split at h
    · cases h
    · split at h
      · cases h
      · exact ⟨by omega, by omega⟩
  · rintro ⟨h1, h2⟩
    rw [if_neg (by omega), if_neg (by omega)]

theorem textErr_zero_eq {s : ByteArray} (h : (textErr s).2 = 0) : textErr s = (0, 0) := by
  obtain ⟨h1, h2⟩ := textErr_zero.1 h
  unfold textErr
  rw [if_neg (by omega), if_neg (by omega)]

theorem ext_list (s : ByteArray) (i j : Nat) : (s.extract i j).data.toList = (s.data.toList.drop i).take (j - i) := by
  simp only [ByteArray.data_extract, Array.toList_extract, List.extract_eq_take_drop]

theorem txt_ext {s : ByteArray} (h : txt s = s.size) (i j : Nat) : txt (s.extract i j) = (s.extract i j).size := by
  rw [txt_mem] at h ⊢
  intro c hc
  rw [ext_list] at hc
  exact h c (List.mem_of_mem_drop (List.mem_of_mem_take hc))

section
variable (a b : ByteArray)
def dF : Nat := headP a.data.toList b.data.toList
def dN : Nat := headP (a.data.toList.drop (dF a b)).reverse (b.data.toList.drop (dF a b)).reverse

theorem dF_le : dF a b ≤ a.size ∧ dF a b ≤ b.size := by
  have := headP_le a.data.toList b.data.toList
  simpa [dF] using this
theorem dN_le : dF a b + dN a b ≤ a.size ∧ dF a b + dN a b ≤ b.size := by
  have h := headP_le (a.data.toList.drop (dF a b)).reverse (b.data.toList.drop (dF a b)).reverse
  have h2 := dF_le a b
  simp only [List.length_reverse, List.length_drop, Array.length_toList] at h
  have e1 : a.data.size = a.size := rfl
  have e2 : b.data.size = b.size := rfl
  unfold dN
  omega
theorem dF_comm : dF b a = dF a b := headP_comm _ _
theorem dN_comm : dN b a = dN a b := by
  unfold dN
  rw [dF_comm, headP_comm]

theorem dSpl : diffSpl a b = ⟨dF a b, (a.size : Int) - dN a b, b.extract (dF a b) (b.size - dN a b)⟩ := rfl

theorem d_head : a.data.toList.take (dF a b) = b.data.toList.take (dF a b) := headP_take _ _
theorem d_tail : a.data.toList.drop (a.size - dN a b) = b.data.toList.drop (b.size - dN a b) := by
  have h := tail_drop (a.data.toList.drop (dF a b)) (b.data.toList.drop (dF a b))
  have h1 := dF_le a b
  have h2 := dN_le a b
  have e1 : a.data.toList.length = a.size := by simp
  have e2 : b.data.toList.length = b.size := by simp
  change List.drop (_ - dN a b) _ = List.drop (_ - dN a b) _ at h
  rw [List.drop_drop, List.drop_drop, List.length_drop, List.length_drop, e1, e2] at h
  rw [show dF a b + (a.size - dF a b - dN a b) = a.size - dN a b by omega, show dF a b + (b.size - dF a b - dN a b) = b.size - dN a b by omega] at h
  exact h
end

theorem d_splErr (a b : ByteArray) (hb : (textErr b).2 = 0) : splErr a [diffSpl a b] = 0 := by
  have h1 := dN_le a b
  have h2 := (textErr_zero.1 hb).2
  unfold splErr
  rw [if_neg (by simp), if_neg, if_neg]
  · simp only [splBad]
    rw [dSpl, txt_ext h2, if_neg (Nat.lt_irrefl _)]
    simp
  · rw [dSpl]
    simp only [splRight]
    rw [if_neg (by omega)]
    simp

theorem d_grown (a b : ByteArray) : (a.size : Int) + grown a 0 [diffSpl a b] = b.size := by
  have h1 := dN_le a b
  rw [dSpl]
  simp only [grown, ByteArray.size_extract]
  omega

theorem d_plan (a b : ByteArray) (ha : (textErr a).2 = 0) (hb : (textErr b).2 = 0) : (planAnyRes a [diffSpl a b]).2 = 0 := by
  unfold planAnyRes planRes
  rw [if_neg (by rw [ha]; simp), if_neg (by rw [d_splErr a b hb]; simp), d_grown, if_neg]
  have := (textErr_zero.1 hb).1
  omega

theorem d_apply (a b : ByteArray) (ha : (textErr a).2 = 0) (hb : (textErr b).2 = 0) : applyRes a [diffSpl a b] = (b.data.toList, 0) := by
  have h1 := dN_le a b
  unfold applyRes
  rw [if_neg (by rw [d_plan a b ha hb]; simp)]
  congr 1
  rw [dSpl]
  simp only [chgs, afterB, Int.toNat_natCast, Nat.sub_zero, List.drop_zero]
  rw [show ((a.size : Int) - dN a b).toNat = a.size - dN a b by omega, d_head, d_tail, ext_list]
  have e2 : b.data.toList = b.data.toList.take (dF a b) ++ (b.data.toList.drop (dF a b)) := (List.take_append_drop _ _).symm
  have e3 : b.data.toList.drop (dF a b) = (b.data.toList.drop (dF a b)).take (b.size - dN a b - dF a b) ++ b.data.toList.drop (b.size - dN a b) := by
    conv => lhs; rw [← List.take_append_drop (b.size - dN a b - dF a b) (b.data.toList.drop (dF a b))]
    rw [List.drop_drop, show dF a b + (b.size - dN a b - dF a b) = b.size - dN a b by omega]
  rw [← e3]
  exact e2.symm

theorem d_undo (a b : ByteArray) (ha : (textErr a).2 = 0) (hb : (textErr b).2 = 0) : undoRes a [diffSpl a b] = ([diffSpl b a], 0) := by
  have h1 := dN_le a b
  unfold undoRes
  rw [if_neg (by rw [d_plan a b ha hb]; simp)]
  congr 1
  have e : ((a.size : Int) - dN a b).toNat = a.size - dN a b := by omega
  rw [dSpl, dSpl, dF_comm a b, dN_comm a b]
  simp only [backP, Int.toNat_natCast, Int.add_zero, ByteArray.size_extract, e]
  congr 2
  omega

theorem d_none (a : ByteArray) (ha : (textErr a).2 = 0) : applyRes a [] = (a.data.toList, 0) ∧ undoRes a [] = ([], 0) := by
  have h : (planAnyRes a []).2 = 0 := by
    have := (textErr_zero.1 ha).1
    unfold planAnyRes planRes
    rw [if_neg (by rw [ha]; simp), if_neg (by simp [splErr, splRight, splBad]), if_neg]
    simp only [grown]
    omega
  unfold applyRes undoRes
  rw [if_neg (by rw [h]; simp), if_neg (by rw [h]; simp)]
  exact ⟨rfl, rfl⟩

/-- What leads from a text to another one, whatever they are. -/
theorem diff_ok {a b : ByteArray} (h : (diffRes a b).2 = 0) : (textErr a).2 = 0 ∧ (textErr b).2 = 0 ∧ applyRes a (diffRes a b).1 = (b.data.toList, 0) ∧ undoRes a (diffRes a b).1 = ((diffRes b a).1, 0) ∧ (diffRes b a).2 = 0 ∧ (diffRes a b).1.length ≤ 1 ∧ (diffRes b a).1.length = (diffRes a b).1.length := by
  unfold diffRes at h
  split at h
  · rename_i h1
    exact absurd h h1
  · rename_i h1
    split at h
    · rename_i h2
      exact absurd h h2
    · rename_i h2
      have ha : (textErr a).2 = 0 := by simpa using h1
      have hb : (textErr b).2 = 0 := by simpa using h2
      by_cases hab : a = b
      · subst hab
        have e : diffRes a a = ([], 0) := by
          unfold diffRes
          rw [if_neg h1, if_neg h1, if_pos rfl]
        rw [e]
        exact ⟨ha, ha, (d_none a ha).1, (d_none a ha).2, rfl, by simp, rfl⟩
      · have e : diffRes a b = ([diffSpl a b], 0) := by
          unfold diffRes
          rw [if_neg h1, if_neg h2, if_neg hab]
        have e' : diffRes b a = ([diffSpl b a], 0) := by
          unfold diffRes
          rw [if_neg h2, if_neg h1, if_neg (fun x => hab x.symm)]
        rw [e, e']
        exact ⟨ha, hb, d_apply a b ha hb, d_undo a b ha hb, rfl, by simp, rfl⟩
end Go.Proofs.YtjadjmkbjolklaaGreatDoor
namespace Go.Proofs.YtjadjmkbjolklaaGreatDoor
open Go Go.RowKit

/-- The text after splices from a place on, whatever the growth before. -/
theorem afterB_g (s : ByteArray) : ∀ (l : List Spl) (f : Nat) (g g' : Int), afterB s f (chgs s g l) = afterB s f (chgs s g' l)
  | [], _, _, _ => rfl
  | x :: r, f, g, g' => by
    rw [chgs, chgs, afterB, afterB]
    dsimp only
    rw [afterB_g s r _ _ (g' + ((x.text.size : Int) - (s.extract x.from_.toNat x.to_.toNat).size))]

def aftS (s : ByteArray) (f : Nat) (l : List Spl) : List UInt8 := afterB s f (chgs s 0 l)

theorem aftS_cons (s : ByteArray) (f : Nat) (x : Spl) (r : List Spl) : aftS s f (x :: r) = (s.data.toList.drop f).take (x.from_.toNat - f) ++ (x.text.data.toList ++ aftS s x.to_.toNat r) := by
  unfold aftS
  rw [chgs, afterB]
  dsimp only
  rw [afterB_g s r _ _ 0]

theorem splRight_cons {n : Nat} {last : Int} {x : Spl} {r : List Spl} (h : splRight n last (x :: r) = true) : last ≤ x.from_ ∧ x.from_ ≤ x.to_ ∧ x.to_ ≤ n ∧ splRight n x.to_ r = true := by
  rw [splRight] at h
  split at h
  · cases h
  · exact ⟨by omega, by omega, by omega, h⟩

theorem grow1_eq {s : ByteArray} {x : Spl} {last : Int} {r : List Spl} (h0 : 0 ≤ last) (h : splRight s.size last (x :: r) = true) : grow1 s x = x.text.size - (x.to_ - x.from_) := by
  obtain ⟨h1, h2, h3, _⟩ := splRight_cons h
  unfold grow1
  simp only [ByteArray.size_extract]
  omega

theorem take_len (s : ByteArray) (f n : Nat) (h : f + n ≤ s.size) : ((s.data.toList.drop f).take n).length = n := by
  simp
  omega

/-- What stands behind: the text t from place f + g on is the text after the splices l of s from f on. -/
structure Beh (s t : ByteArray) (f : Nat) (g : Int) (l : List Spl) : Prop where
  pos : 0 ≤ (f : Int) + g
  fs : f ≤ s.size
  right : splRight s.size f l = true
  drop : t.data.toList.drop ((f : Int) + g).toNat = aftS s f l
  le : ((f : Int) + g).toNat ≤ t.size

theorem Beh.next {s t : ByteArray} {f : Nat} {g : Int} {x : Spl} {r : List Spl} (h : Beh s t f g (x :: r)) :
    Beh s t x.to_.toNat (g + grow1 s x) r ∧ (x.to_.toNat : Int) + (g + grow1 s x) = x.from_ + g + x.text.size ∧ x.from_ + g + x.text.size ≤ t.size := by
  obtain ⟨h1, h2, h3, h4⟩ := splRight_cons h.right
  have hg := grow1_eq (by omega) h.right
  have hp := h.pos
  have hd := h.drop
  have hl := h.le
  have hf := h.fs
  have hd1 := congrArg List.length hd
  rw [aftS_cons] at hd hd1
  have ht := take_len s f (x.from_.toNat - f) (by omega)
  have e2 : x.text.data.toList.length = x.text.size := by simp
  have e3 : t.data.toList.length = t.size := by simp
  simp only [List.length_append, List.length_drop, ht, e2, e3] at hd1
  have hto : ((x.to_.toNat : Nat) : Int) = x.to_ := Int.toNat_of_nonneg (by omega)
  refine ⟨⟨by omega, by omega, by rw [hto]; exact h4, ?_, by omega⟩, by omega, by omega⟩
  have e : ((x.to_.toNat : Int) + (g + grow1 s x)).toNat = ((f : Int) + g).toNat + ((x.from_.toNat - f) + x.text.size) := by omega
  rw [e, ← List.drop_drop, hd, ← List.append_assoc, List.drop_append_of_le_length (by simp only [List.length_append, ht, e2]; omega)]
  rw [List.drop_eq_nil_of_le (by simp only [List.length_append, ht, e2]; omega), List.nil_append]

theorem Beh.end_ {s t : ByteArray} {f : Nat} {g : Int} (h : Beh s t f g []) : t.data.toList.drop ((f : Int) + g).toNat = s.data.toList.drop f := h.drop

theorem aft_size {s t : ByteArray} : ∀ {l : List Spl} {f : Nat} {g : Int}, Beh s t f g l → (t.size : Int) = s.size + (grown s g l)
  | [], f, g, h => by
    have := congrArg List.length h.end_
    have hp := h.pos
    have hf := h.fs
    have hl := h.le
    have e3 : t.data.toList.length = t.size := by simp
    have e4 : s.data.toList.length = s.size := by simp
    simp only [List.length_drop, e3, e4] at this
    rw [grown]
    omega
  | x :: r, f, g, h => by
    have := aft_size h.next.1
    rw [grown]
    exact this

theorem back_right {s t : ByteArray} : ∀ {l : List Spl} {f : Nat} {g : Int}, Beh s t f g l → splRight t.size ((f : Int) + g) (backP s g l) = true
  | [], f, g, h => rfl
  | x :: r, f, g, h => by
    obtain ⟨h1, h2, h3, h4⟩ := splRight_cons h.right
    obtain ⟨hn, e, hle⟩ := h.next
    have ih := back_right hn
    rw [e] at ih
    rw [backP, splRight, if_neg]
    · exact ih
    · dsimp only
      omega

theorem back_bad {s : ByteArray} (hs : txt s = s.size) : ∀ (l : List Spl) (g : Int), splBad (backP s g l) = false
  | [], g => rfl
  | x :: r, g => by
    rw [backP, splBad]
    dsimp only
    rw [txt_ext hs, if_neg (Nat.lt_irrefl _)]
    exact back_bad hs r _

theorem back_length (s : ByteArray) : ∀ (l : List Spl) (g : Int), (backP s g l).length = l.length
  | [], g => rfl
  | x :: r, g => by rw [backP, List.length_cons, List.length_cons, back_length s r]

theorem back_grow {s t : ByteArray} {f : Nat} {g : Int} {x : Spl} {r : List Spl} (h : Beh s t f g (x :: r)) :
    grow1 t ⟨x.from_ + g, x.from_ + g + x.text.size, s.extract x.from_.toNat x.to_.toNat⟩ = -grow1 s x := by
  obtain ⟨h1, h2, h3, h4⟩ := splRight_cons h.right
  obtain ⟨_, _, hle⟩ := h.next
  have hp := h.pos
  rw [grow1_eq (by omega) h.right]
  unfold grow1
  simp only [ByteArray.size_extract]
  omega

theorem back_grown {s t : ByteArray} : ∀ {l : List Spl} {f : Nat} {g k : Int}, Beh s t f g l → grown t k (backP s g l) + grown s g l = k + g
  | [], f, g, k, h => rfl
  | x :: r, f, g, k, h => by
    have hb := back_grow h
    have ih := back_grown (k := k + grow1 t ⟨x.from_ + g, x.from_ + g + x.text.size, s.extract x.from_.toNat x.to_.toNat⟩) h.next.1
    rw [backP, grown, grown]
    have e : grown s (g + grow1 s x) r = grown s (g + ((x.text.size : Int) - (s.extract x.from_.toNat x.to_.toNat).size)) r := rfl
    rw [e] at ih
    refine ih.trans ?_
    rw [hb]
    omega

theorem back_after {s t : ByteArray} : ∀ {l : List Spl} {f : Nat} {g : Int}, Beh s t f g l → aftS t ((f : Int) + g).toNat (backP s g l) = s.data.toList.drop f
  | [], f, g, h => h.end_
  | x :: r, f, g, h => by
    obtain ⟨h1, h2, h3, h4⟩ := splRight_cons h.right
    obtain ⟨hn, e, hle⟩ := h.next
    have hp := h.pos
    have ih := back_after hn
    rw [e] at ih
    rw [backP, aftS_cons]
    dsimp only
    rw [ih, h.drop, aftS_cons, ext_list]
    have ht := take_len s f (x.from_.toNat - f) (by omega)
    rw [show (x.from_ + g).toNat - ((f : Int) + g).toNat = x.from_.toNat - f by omega, List.take_append_of_le_length (by rw [ht]; exact Nat.le_refl _), List.take_of_length_le (by rw [ht]; exact Nat.le_refl _)]
    have e1 : (s.data.toList.drop x.from_.toNat).take (x.to_.toNat - x.from_.toNat) ++ s.data.toList.drop x.to_.toNat = s.data.toList.drop x.from_.toNat := by
      conv => rhs; rw [← List.take_append_drop (x.to_.toNat - x.from_.toNat) (s.data.toList.drop x.from_.toNat)]
      rw [List.drop_drop, show x.from_.toNat + (x.to_.toNat - x.from_.toNat) = x.to_.toNat by omega]
    rw [e1]
    conv => rhs; rw [← List.take_append_drop (x.from_.toNat - f) (s.data.toList.drop f)]
    rw [List.drop_drop, show f + (x.from_.toNat - f) = x.from_.toNat by omega]

/-- All splices begin behind a place. -/
theorem mvP_before (s : ByteArray) (a : Int) : ∀ (l : List Spl) (n : Nat) (last g : Int), a < last → splRight n last l = true → mvP s a g l = (a + g, 0)
  | [], _, _, _, _, _ => rfl
  | x :: r, n, last, g, h, hr => by
    obtain ⟨h1, h2, h3, h4⟩ := splRight_cons hr
    rw [mvP, if_neg (by omega), if_neg (by omega)]
    exact mvP_before s a r n x.to_ g (by omega) h4

/-- Where a byte that stays goes: not before what it was behind; it is the same byte; and it goes back. -/
theorem mv_back {s t : ByteArray} : ∀ {l : List Spl} {f : Nat} {g : Int} {a n : Int}, Beh s t f g l → (f : Int) ≤ a → mvP s a g l = (n, 0) →
    (f : Int) + g ≤ n ∧ t.data.toList[n.toNat]? = s.data.toList[a.toNat]? ∧ mvP t n (-g) (backP s g l) = (a, 0)
  | [], f, g, a, n, h, hf, hm => by
    have hp := h.pos
    simp only [mvP, Prod.mk.injEq, and_true] at hm
    subst hm
    refine ⟨by omega, ?_, ?_⟩
    · have e := congrArg (fun l => l[a.toNat - f]?) h.end_
      simp only [List.getElem?_drop] at e
      rw [show ((f : Int) + g).toNat + (a.toNat - f) = (a + g).toNat by omega, show f + (a.toNat - f) = a.toNat by omega] at e
      exact e
    · simp only [backP, mvP, Prod.mk.injEq, and_true]
      omega
  | x :: r, f, g, a, n, h, hf, hm => by
    obtain ⟨h1, h2, h3, h4⟩ := splRight_cons h.right
    obtain ⟨hn, e, hle⟩ := h.next
    have hp := h.pos
    have hfs := h.fs
    rw [mvP] at hm
    split at hm
    · cases hm
    · rename_i hin
      by_cases hto : x.to_ ≤ a
      · rw [if_pos hto] at hm
        obtain ⟨i1, i2, i3⟩ := mv_back hn (by omega) hm
        refine ⟨by omega, i2, ?_⟩
        rw [backP, mvP, if_neg (by dsimp only; omega), if_pos (by dsimp only; omega), back_grow h]
        rw [show -g + -grow1 s x = -(g + grow1 s x) by omega]
        exact i3
      · rw [if_neg hto] at hm
        rw [mvP_before s a r s.size x.to_ g (by omega) h4] at hm
        simp only [Prod.mk.injEq, and_true] at hm
        subst hm
        refine ⟨by omega, ?_, ?_⟩
        · have e1 := congrArg (fun l => l[a.toNat - f]?) h.drop
          rw [aftS_cons] at e1
          have ht := take_len s f (x.from_.toNat - f) (by omega)
          rw [List.getElem?_append_left (by rw [ht]; omega), List.getElem?_take_of_lt (by omega), List.getElem?_drop, List.getElem?_drop] at e1
          rw [show ((f : Int) + g).toNat + (a.toNat - f) = (a + g).toNat by omega, show f + (a.toNat - f) = a.toNat by omega] at e1
          exact e1
        · have hb := back_right h
          rw [backP] at hb
          obtain ⟨b1, b2, b3, b4⟩ := splRight_cons hb
          dsimp only at b1 b2 b3 b4
          rw [backP, mvP, if_neg (by dsimp only; omega), if_neg (by dsimp only; omega), mvP_before t (a + g) _ t.size _ (-g) (by omega) b4]
          simp only [Prod.mk.injEq, and_true]
          omega

theorem mv_mono {s t : ByteArray} : ∀ {l : List Spl} {f : Nat} {g : Int} {a a' n n' : Int}, Beh s t f g l → (f : Int) ≤ a → a < a' → mvP s a g l = (n, 0) → mvP s a' g l = (n', 0) → n < n'
  | [], f, g, a, a', n, n', h, hf, ha, hm, hm' => by
    simp only [mvP, Prod.mk.injEq, and_true] at hm hm'
    omega
  | x :: r, f, g, a, a', n, n', h, hf, ha, hm, hm' => by
    obtain ⟨h1, h2, h3, h4⟩ := splRight_cons h.right
    obtain ⟨hn, e, hle⟩ := h.next
    rw [mvP] at hm hm'
    split at hm
    · cases hm
    · split at hm'
      · cases hm'
      · by_cases hto : x.to_ ≤ a
        · rw [if_pos hto] at hm
          rw [if_pos (by omega)] at hm'
          exact mv_mono hn (by omega) ha hm hm'
        · rw [if_neg hto, mvP_before s a r s.size x.to_ g (by omega) h4] at hm
          simp only [Prod.mk.injEq, and_true] at hm
          by_cases hto' : x.to_ ≤ a'
          · rw [if_pos hto'] at hm'
            have := (mv_back hn (by omega) hm').1
            omega
          · rw [if_neg hto', mvP_before s a' r s.size x.to_ g (by omega) h4] at hm'
            simp only [Prod.mk.injEq, and_true] at hm'
            omega

theorem txt_after {s : ByteArray} (hs : txt s = s.size) : ∀ (l : List Spl) (f : Nat), splBad l = false → ∀ c ∈ aftS s f l, inCls [1, 2, 3, 4, 5, 6, 7] c = true
  | [], f, _, c, hc => by
    rw [txt_mem] at hs
    exact hs c (List.mem_of_mem_drop hc)
  | x :: r, f, hb, c, hc => by
    rw [splBad] at hb
    split at hb
    · cases hb
    · rename_i hx
      rw [aftS_cons, List.mem_append, List.mem_append] at hc
      rcases hc with hc | hc | hc
      · rw [txt_mem] at hs
        exact hs c (List.mem_of_mem_drop (List.mem_of_mem_take hc))
      · have hx2 : txt x.text = x.text.size := by have := txt_le x.text; omega
        rw [txt_mem] at hx2
        exact hx2 c hc
      · exact txt_after hs r _ hb c hc

/-- What Apply gives, given that it is no error. -/
theorem apply_beh {s : ByteArray} {l : List Spl} (h : (applyRes s l).2 = 0) :
    (planAnyRes s l).2 = 0 ∧ Beh s ⟨(applyRes s l).1.toArray⟩ 0 0 l ∧ (applyRes ⟨(applyRes s l).1.toArray⟩ (backP s 0 l)) = (s.data.toList, 0) ∧ undoRes s l = (backP s 0 l, 0) ∧ (planAnyRes ⟨(applyRes s l).1.toArray⟩ (backP s 0 l)).2 = 0 := by
  have hp : (planAnyRes s l).2 = 0 := by
    unfold applyRes at h
    split at h
    · rename_i h1
      exact absurd h h1
    · rename_i h1
      simpa using h1
  have ha : (applyRes s l).1 = aftS s 0 l := by
    unfold applyRes
    rw [if_neg (by rw [hp]; simp)]
    rfl
  obtain ⟨p1, p2, p3, p4⟩ := planAny_ok hp
  obtain ⟨q1, q2, q3⟩ := splErr_ok p2
  obtain ⟨t1, t2⟩ := textErr_zero.1 p1
  rw [ha]
  have hB : Beh s ⟨(aftS s 0 l).toArray⟩ 0 0 l := ⟨by simp, by simp, q2, by simp, by simp⟩
  have hsz := aft_size hB
  have hback : (planAnyRes ⟨(aftS s 0 l).toArray⟩ (backP s 0 l)).2 = 0 := by
    have ht : (textErr ⟨(aftS s 0 l).toArray⟩).2 = 0 := by
      rw [textErr_zero]
      refine ⟨by omega, ?_⟩
      rw [txt_mem]
      intro c hc
      exact txt_after t2 l 0 q3 c (by simpa using hc)
    have he : splErr ⟨(aftS s 0 l).toArray⟩ (backP s 0 l) = 0 := by
      unfold splErr
      have hr := back_right hB
      rw [show (((0 : Nat) : Int) + 0) = 0 from rfl] at hr
      rw [if_neg (by rw [back_length]; omega), hr, back_bad t2, if_neg (by simp), if_neg (by simp)]
    unfold planAnyRes planRes
    rw [if_neg (by rw [ht]; simp), if_neg (by rw [he]; simp), if_neg]
    have := back_grown (k := 0) hB
    omega
  refine ⟨hp, hB, ?_, ?_, hback⟩
  · unfold applyRes
    rw [if_neg (by rw [hback]; simp)]
    have := back_after hB
    have e : (((0 : Nat) : Int) + 0).toNat = 0 := rfl
    rw [e] at this
    show (aftS _ 0 _, (0 : Int)) = _
    rw [this]
    rfl
  · unfold undoRes
    rw [if_neg (by rw [hp]; simp)]

/-- A byte that stays, or not. -/
theorem moved_ok {s : ByteArray} {l : List Spl} (h : (applyRes s l).2 = 0) {a : Int} (h0 : 0 ≤ a) (h1 : a < s.size) :
    movedRes s l a = mvP s a 0 l ∧ (mvP s a 0 l = (0, 7) ∨ ∃ n : Int, mvP s a 0 l = (n, 0) ∧ 0 ≤ n ∧ n < (applyRes s l).1.length ∧ (applyRes s l).1[n.toNat]? = s.data.toList[a.toNat]? ∧ movedRes ⟨(applyRes s l).1.toArray⟩ (backP s 0 l) n = (a, 0)) := by
  obtain ⟨hp, hB, _, _, hback⟩ := apply_beh h
  refine ⟨by unfold movedRes; rw [if_neg (by rw [hp]; simp), if_neg (by omega)], ?_⟩
  have hor : ∀ (l : List Spl) (g : Int), mvP s a g l = (0, 7) ∨ ∃ n : Int, mvP s a g l = (n, 0) := by
    intro l
    induction l with
    | nil => intro g; exact .inr ⟨_, rfl⟩
    | cons x r ih =>
      intro g
      rw [mvP]
      split
      · exact .inl rfl
      · exact ih _
  rcases hor l 0 with h7 | ⟨n, hn⟩
  · exact .inl h7
  · refine .inr ⟨n, hn, ?_⟩
    obtain ⟨i1, i2, i3⟩ := mv_back hB (by simpa using h0) hn
    have i1' : 0 ≤ n := by simpa using i1
    have i2' : (applyRes s l).1[n.toNat]? = s.data.toList[a.toNat]? := by simpa using i2
    have hlt : n.toNat < (applyRes s l).1.length := by
      rcases Nat.lt_or_ge n.toNat (applyRes s l).1.length with h | h
      · exact h
      · rw [List.getElem?_eq_none h, List.getElem?_eq_getElem (by simp; omega)] at i2'
        cases i2'
    refine ⟨i1', by omega, i2', ?_⟩
    unfold movedRes
    rw [if_neg (by rw [hback]; simp), if_neg (by
      have e : (ByteArray.mk (applyRes s l).1.toArray).size = (applyRes s l).1.length := by simp [ByteArray.size]
      rw [e]
      omega)]
    simpa using i3
end Go.Proofs.YtjadjmkbjolklaaGreatDoor
