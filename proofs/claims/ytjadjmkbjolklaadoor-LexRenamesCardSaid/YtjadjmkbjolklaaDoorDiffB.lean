/- The contract of lex.Diff. -/
import Derived.Test.YtjadjmkbjolklaaDoorDiffA
import Derived.Test.YtjadjmkbjolklaaDoorLexQ
import Derived.Test.YtjadjmkbjolklaaDoorAwakeB
import Derived.Lib.ConvBytes
import Derived.Lib.AtoiErrMem
namespace Go.Proofs.YtjadjmkbjolklaaDoor
open Go.RowKit

/-- The splice that leads from a text to another one. -/
def diffSpl (a b : ByteArray) : Spl :=
  let f := headP a.data.toList b.data.toList
  let n := headP (a.data.toList.drop f).reverse (b.data.toList.drop f).reverse
  ⟨f, (a.size : Int) - n, b.extract f (b.size - n)⟩

/-- What lex.Diff returns. -/
def diffRes (a b : ByteArray) : List Spl × Int :=
  if (textErr a).2 ≠ 0 then ([], (textErr a).2) else if (textErr b).2 ≠ 0 then ([], (textErr b).2) else if a = b then ([], 0) else ([diffSpl a b], 0)

theorem splIn_nil (W : World) (B : Nat) : SplIn W B (.slice none 0 0) [] := ⟨_, _, rfl, fun i x h => by simp at h⟩

theorem BIn.more {W : World} {B B' : Nat} {v : Value} {l : List UInt8} (h : BIn W B v l) (hB : B ≤ B') : BIn W B' v l := by
  obtain ⟨A, c, rfl, hA⟩ := h
  refine ⟨A, c, rfl, fun i x hx => ?_⟩
  obtain ⟨b, off, rfl, h0, h1⟩ := hA i x hx
  exact ⟨b, off, rfl, by omega, h1⟩

theorem BIn.below {W W' : World} {B : Nat} {v : Value} {l : List UInt8} (h : BIn W B v l) (hb : Below B W W') : BIn W' B v l := by
  obtain ⟨A, c, rfl, hA⟩ := h
  refine ⟨A, c, rfl, fun i x hx => ?_⟩
  obtain ⟨b, off, rfl, hB, h1⟩ := hA i x hx
  exact ⟨b, off, rfl, hB, (hb.cell (p := ⟨b, _, none⟩) hB).trans h1⟩

/-- The bytes of a text, as a new slice. -/
theorem bytes_bin (w : World) (s : ByteArray) (c : Nat) : BIn (Lib.bytesWorld w 5 s) (w.heap.size + 1) (.slice (some ⟨w.heap.size, 0, none⟩) s.size c) s.data.toList := by
  refine ⟨some ⟨w.heap.size, 0, none⟩, c, by simp, fun i x hx => ?_⟩
  obtain ⟨hi, rfl⟩ := List.getElem?_eq_some_iff.1 hx
  refine ⟨_, _, rfl, by omega, ?_⟩
  have hi' : i < s.size := by simpa using hi
  rw [Nat.zero_add, Lib.bytesWorld_cell w 5 s i hi', List.getD, List.getElem?_eq_getElem hi]
  rfl

theorem conv80 (s : ByteArray) (w : World) : (convert 9 80 (.string s)).run Tryd.prog w = .ok (.slice (some ⟨w.heap.size, 0, none⟩) s.size (grownCap w s.size 0 5)) (Lib.bytesWorld w 5 s) :=
  Lib.run_convert_string_bytes w 9 80 5 s Tryd.underlying9 Tryd.underlying80 Tryd.underlying5

theorem two_bin (w : World) (s t : ByteArray) (c c' : Nat) :
    BIn (Lib.bytesWorld (Lib.bytesWorld w 5 s) 5 t) (Lib.bytesWorld (Lib.bytesWorld w 5 s) 5 t).heap.size (.slice (some ⟨w.heap.size, 0, none⟩) s.size c) s.data.toList ∧
    BIn (Lib.bytesWorld (Lib.bytesWorld w 5 s) 5 t) (Lib.bytesWorld (Lib.bytesWorld w 5 s) 5 t).heap.size (.slice (some ⟨(Lib.bytesWorld w 5 s).heap.size, 0, none⟩) t.size c') t.data.toList ∧
    Below w.heap.size w (Lib.bytesWorld (Lib.bytesWorld w 5 s) 5 t) := by
  have b1 := Lib.bytesWorld_below w 5 s
  have b2 := Lib.bytesWorld_below (Lib.bytesWorld w 5 s) 5 t
  have z1 := Lib.bytesWorld_size w 5 s
  have z2 := Lib.bytesWorld_size (Lib.bytesWorld w 5 s) 5 t
  refine ⟨((bytes_bin w s c).below (b2.mono (by omega))).more (by omega), ?_, b1.trans (b2.mono (by omega))⟩
  rw [z2]
  exact bytes_bin _ t c'

theorem bin_fst (w : World) (s t : ByteArray) (c n g : Nat) (hn : n = s.size) (hg : g = w.heap.size) :
    BIn (Lib.bytesWorld (Lib.bytesWorld w 5 s) 5 t) (Lib.bytesWorld (Lib.bytesWorld w 5 s) 5 t).heap.size (.slice (some ⟨g, 0, none⟩) n c) s.data.toList := by
  rw [hn, hg]
  exact (two_bin w s t c 0).1
theorem bin_snd (w : World) (s t : ByteArray) (c n g : Nat) (hn : n = t.size) (hg : g = (Lib.bytesWorld w 5 s).heap.size) :
    BIn (Lib.bytesWorld (Lib.bytesWorld w 5 s) 5 t) (Lib.bytesWorld (Lib.bytesWorld w 5 s) 5 t).heap.size (.slice (some ⟨g, 0, none⟩) n c) t.data.toList := by
  rw [hn, hg]
  exact (two_bin w s t 0 c).2.1

theorem ext_drop (a : ByteArray) (f : Nat) : (a.extract f a.size).data.toList = a.data.toList.drop f := by
  simp only [ByteArray.data_extract, Array.toList_extract, List.extract_eq_take_drop]
  exact List.take_of_length_le (by simp)

theorem diffSpl_eq {a b ea eb : ByteArray} {f n : Nat} (hf : headP a.data.toList b.data.toList = f) (ha : ea = a.extract f a.size) (hb : eb = b.extract f b.size) (hn : headP ea.data.toList.reverse eb.data.toList.reverse = n) :
    diffSpl a b = ⟨f, (a.size : Int) - n, b.extract f (b.size - n)⟩ := by
  unfold diffSpl
  rw [ha, hb, ext_drop, ext_drop] at hn
  simp only [hf, hn]

theorem below3 {B : Nat} {w w2 X w3 : World} (h : Below B w w2) (hB : B ≤ w.heap.size) (h2 : Below w2.drew.heap.size w2.drew X) (h3 : Below X.heap.size X w3) : Below B w w3 := by
  have z1 := h.size
  have z2 := h2.size
  rw [World.size_drew] at z2
  exact (h.drew.trans (h2.mono (by rw [World.size_drew]; omega))).trans (h3.mono (by omega))

theorem strs_new (w : World) (a b : ByteArray) : (w.alloc (.cells #[.string a, .string b] 9)).heap[w.heap.size]? = some (.cells #[.string a, .string b] 9 (0, 0)) := World.alloc_heap_new w _

set_option maxRecDepth 100000 in
set_option maxHeartbeats 2000000 in
theorem diff_any (a b : ByteArray) (w : World) (ha : a.size ≤ 140737488355328) (hb : b.size ≤ 140737488355328) :
    Calls Tryd.prog 41 #[.string a, .string b] w fun e w' => ∃ v, e = .returned (.tuple #[v, .int .i64 (diffRes a b).2]) ∧ Below w.heap.size w w' ∧ SplIn w' w'.heap.size v (diffRes a b).1 := by
  have hnew := strs_new w a b
  have hbw := (Below.refl w.heap.size w).alloc (Nat.le_refl _) (.cells #[.string a, .string b] 9)
  have hz : (w.alloc (.cells #[.string a, .string b] 9)).heap.size = w.heap.size + 1 := by simp
  go_enter Tryd.func41, Tryd.ntmps41
  go_wp2
  obtain ⟨W1, hW1⟩ : ∃ W1, W1 = w.alloc (.cells #[.string a, .string b] 9) := ⟨_, rfl⟩
  rw [← hW1] at hnew hbw hz ⊢
  clear hW1
  go_loopw [17] (fun i wr => ∃ (k : Nat), k ≤ 2 ∧ i = .int .i64 k ∧ wr.heap[w.heap.size]? = some (.cells #[.string a, .string b] 9 (0, 0)) ∧ Hid (1 ≤ k → (textErr a).2 = 0) ∧ Hid (2 ≤ k → (textErr b).2 = 0) ∧ Below w.heap.size w wr) (fun i _ => 2 - (intOf i).toNat)
  case atStart => exact ⟨0, by omega, rfl, hnew, Lib.hid (by omega), Lib.hid (by omega), hbw⟩
  case round =>
    obtain ⟨k, hk, rfl, hrow, HA, HB, hbe⟩ := hrel
    have g0 := cell_of_row wr w.heap.size 0 _ 9 (0, 0) hrow
    have g1 := cell_of_row wr w.heap.size 1 _ 9 (0, 0) hrow
    have c0 : wr.cell? ⟨w.heap.size, 0, none⟩ = some (.string a) := g0
    have c1 : wr.cell? ⟨w.heap.size, 1, none⟩ = some (.string b) := g1
    clear g0 g1
    have hlt := (Array.getElem?_eq_some_iff.1 hrow).1
    obtain rfl | rfl | rfl : k = 0 ∨ k = 1 ∨ k = 2 := by omega
    · by_cases he : (textErr a).2 = 0
      · have HE := Lib.hid he
        have heb : ((textErr a).2 != 0) = false := by simpa using he
        clear he
        go_wp2_with (go_at_call 48; refine (textError_any a _ (le_max ha)).mono ?_; rintro e w1 ⟨rfl, hb1⟩)
        exact ⟨⟨1, by omega, rfl, (hb1.block _ hlt).trans hrow, Lib.hid (fun _ => HE.out), Lib.hid (by omega), hbe.trans (hb1.mono hbe.size)⟩, by simp [intOf]⟩
      · have HE := Lib.hid he
        have heb : ((textErr a).2 != 0) = true := by simpa using he
        clear he
        go_wp2_with (go_at_call 48; refine (textError_any a _ (le_max ha)).mono ?_; rintro e w1 ⟨rfl, hb1⟩)
        go_ret2
        have hr : diffRes a b = ([], (textErr a).2) := by unfold diffRes; rw [if_pos HE.out]
        rw [hr]
        exact ⟨_, rfl, hbe.trans (hb1.mono hbe.size), splIn_nil _ _⟩
    · by_cases he : (textErr b).2 = 0
      · have HE := Lib.hid he
        have heb : ((textErr b).2 != 0) = false := by simpa using he
        clear he
        go_wp2_with (go_at_call 48; refine (textError_any b _ (le_max hb)).mono ?_; rintro e w1 ⟨rfl, hb1⟩)
        exact ⟨⟨2, by omega, rfl, (hb1.block _ hlt).trans hrow, Lib.hid (fun _ => HA.out (by omega)), Lib.hid (fun _ => HE.out), hbe.trans (hb1.mono hbe.size)⟩, by simp [intOf]⟩
      · have HE := Lib.hid he
        have heb : ((textErr b).2 != 0) = true := by simpa using he
        clear he
        go_wp2_with (go_at_call 48; refine (textError_any b _ (le_max hb)).mono ?_; rintro e w1 ⟨rfl, hb1⟩)
        go_ret2
        have hr : diffRes a b = ([], (textErr b).2) := by unfold diffRes; rw [if_neg (by rw [HA.out (by omega)]; simp), if_pos HE.out]
        rw [hr]
        exact ⟨_, rfl, hbe.trans (hb1.mono hbe.size), splIn_nil _ _⟩
    · have hta := HA.out (by omega)
      have htb := HB.out (by omega)
      by_cases hab : a = b
      · have hr : diffRes a b = ([], 0) := by unfold diffRes; rw [if_neg (by rw [hta]; simp), if_neg (by rw [htb]; simp), if_pos hab]
        have HR := Lib.hid hr
        have hq : (a.toList == b.toList) = true := by rw [toList_beq]; simpa using hab
        clear hr hta htb hab
        go_wp2
        go_ret2
        rw [HR.out]
        exact ⟨_, rfl, hbe, splIn_nil _ _⟩
      · have hr : diffRes a b = ([diffSpl a b], 0) := by unfold diffRes; rw [if_neg (by rw [hta]; simp), if_neg (by rw [htb]; simp), if_neg hab]
        have HR := Lib.hid hr
        have hq : (a.toList == b.toList) = false := by rw [toList_beq]; simpa using hab
        clear hr hta htb hab
        have hca := conv80 a
        have hcb := conv80 b
        have hfl := headP_le a.data.toList b.data.toList
        go_wp2_with (go_at_call 74; refine (heads_any _ _ a.data.toList b.data.toList _ (by simpa using ha) (by simpa using hb) (two_bin wr a b _ (grownCap (Lib.bytesWorld wr 5 a) b.size 0 5)).1 (two_bin wr a b (grownCap wr a.size 0 5) _).2.1).mono ?_; rintro e w2 ⟨rfl, hb2⟩; have hB2 := (hbe.trans ((two_bin wr a b 0 0).2.2.mono hbe.size)).trans (hb2.mono (Nat.le_trans hbe.size (two_bin wr a b 0 0).2.2.size)); clear hb2)
        clear hca hcb
        generalize hf : headP a.data.toList b.data.toList = f at hfl ⊢
        have HF := Lib.hid hf
        have hfa : f ≤ a.size := by simpa using hfl.1
        have hfb : f ≤ b.size := by simpa using hfl.2
        clear hf hfl
        obtain ⟨ea, hea⟩ : ∃ ea, ea = a.extract f a.size := ⟨_, rfl⟩
        obtain ⟨eb, heb⟩ : ∃ eb, eb = b.extract f b.size := ⟨_, rfl⟩
        have hca : ∀ w, (convert 9 80 (.string (a.extract f a.size))).run Tryd.prog w = .ok (.slice (some ⟨w.heap.size, 0, none⟩) ea.size (grownCap w ea.size 0 5)) (Lib.bytesWorld w 5 ea) := fun w => by rw [hea]; exact conv80 _ w
        have hcb : ∀ w, (convert 9 80 (.string (b.extract f b.size))).run Tryd.prog w = .ok (.slice (some ⟨w.heap.size, 0, none⟩) eb.size (grownCap w eb.size 0 5)) (Lib.bytesWorld w 5 eb) := fun w => by rw [heb]; exact conv80 _ w
        have hla : ea.data.toList.length ≤ 140737488355328 := by rw [hea]; simp; omega
        have hlb : eb.data.toList.length ≤ 140737488355328 := by rw [heb]; simp; omega
        have HEA := Lib.hid hea
        have HEB := Lib.hid heb
        clear hea heb
        have hsz := hB2.size
        go_region_with (go_at_call 75; refine (tails_any _ _ ea.data.toList eb.data.toList _ hla hlb (by first | with_reducible exact bin_fst _ ea eb _ _ _ rfl (by simp) | with_reducible exact bin_snd _ eb ea _ _ _ rfl rfl) (by first | with_reducible exact bin_snd _ ea eb _ _ _ rfl rfl | with_reducible exact bin_fst _ eb ea _ _ _ rfl (by simp))).mono ?_; rintro e w3 ⟨rfl, hb3⟩)
        all_goals first
          | have HB3 := Lib.hid (below3 hB2 (Nat.le_refl _) (two_bin w2.drew ea eb 0 0).2.2 hb3)
          | have HB3 := Lib.hid (below3 hB2 (Nat.le_refl _) (two_bin w2.drew eb ea 0 0).2.2 hb3)
        all_goals clear hb3 hca hcb
        all_goals have hn := headP_le ea.data.toList.reverse eb.data.toList.reverse
        all_goals generalize hnn : headP ea.data.toList.reverse eb.data.toList.reverse = n at hn ⊢
        all_goals have HN := Lib.hid hnn
        all_goals have hn1 : n + f ≤ a.size := by have h := hn.1; rw [HEA.out] at h; simp at h; omega
        all_goals have hn2 : n + f ≤ b.size := by have h := hn.2; rw [HEB.out] at h; simp at h; omega
        all_goals clear hnn hn
        all_goals go_wp2
        all_goals go_ret2
        all_goals rw [HR.out, diffSpl_eq HF.out HEA.out HEB.out HN.out]
        all_goals refine ⟨_, rfl, HB3.out.alloc HB3.out.size _, ?_⟩
        all_goals have h := spl_new w3 ⟨f, (a.size : Int) - n, b.extract f (b.size - n)⟩
        all_goals rw [← World.size_alloc w3 (.cells #[.int .i64 f, .int .i64 ((a.size : Int) - n), .string (b.extract f (b.size - n))] 56)] at h
        all_goals exact h
end Go.Proofs.YtjadjmkbjolklaaDoor
