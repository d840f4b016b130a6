/- The first layer: plain answers, small functions of package lex, what the variables hold, what tells spaces, letters and digits. -/
import Derived.Lib.Bytealg
import Derived.WalkKit
import Derived.WalkSpells
import Derived.Outline
import Derived.Lib.Hide
import Derived.Test.YtjadjmkbjolklaaGreatDoorShelf
import Derived.RegionTactic
import Derived.MapKept
import Derived.Carry
import Derived.Test.YtjadjmkbjolklaaGreatDoorProg
import Derived.WalkSmall
import Derived.Lib.LastIndexByte
import Derived.Deep.RegionWith
namespace Go.Proofs.YtjadjmkbjolklaaGreatDoor
open Go

def marksL : List UInt8 := [61, 60, 43, 45, 42, 33, 40, 41, 123, 125, 44, 59, 58, 46]

/-- The class of a byte. -/
def cls (b : Int) : Int :=
  if b = 32 ∨ b = 10 then 1 else if b < 32 ∨ 126 < b then 0 else if b = 126 then 6
  else if 97 ≤ b ∧ b ≤ 122 then 2 else if 65 ≤ b ∧ b ≤ 90 then 3 else if 48 ≤ b ∧ b ≤ 57 then 4
  else if 0 ≤ Lib.indexByte marksL b.toNat.toUInt8 then 5 else 7

theorem cls_bd (b : Int) : 0 ≤ cls b ∧ cls b ≤ 7 := by
  unfold cls
  repeat' split
  all_goals omega

/-- How many bytes from a place on meet p. -/
def spanAt (p : UInt8 → Bool) (s : ByteArray) (k : Nat) : Nat := ((s.data.toList.drop k).takeWhile p).length

/-- The first place from k on whose byte does not meet p; at most the end. -/
def pastP (p : UInt8 → Bool) (s : ByteArray) (k : Nat) : Nat := k + spanAt p s k

theorem drop_cons (s : ByteArray) (k : Nat) (h : k < s.size) : s.data.toList.drop k = s[k] :: s.data.toList.drop (k + 1) := by
  rw [List.drop_eq_getElem_cons (by simpa using h)]
  rfl

theorem pastP_no (p : UInt8 → Bool) (s : ByteArray) (k : Nat) (h : k < s.size) (hp : p s[k] = false) : pastP p s k = k := by
  unfold pastP spanAt
  rw [drop_cons s k h, List.takeWhile_cons_of_neg (by simp [hp])]
  rfl

theorem pastP_yes (p : UInt8 → Bool) (s : ByteArray) (k : Nat) (h : k < s.size) (hp : p s[k] = true) : pastP p s k = pastP p s (k + 1) := by
  unfold pastP spanAt
  rw [drop_cons s k h, List.takeWhile_cons_of_pos hp, List.length_cons]
  omega

theorem pastP_end (p : UInt8 → Bool) (s : ByteArray) (k : Nat) (h : s.size ≤ k) : pastP p s k = k := by
  unfold pastP spanAt
  rw [List.drop_eq_nil_of_le (by simpa using h)]
  rfl

theorem pastP_ge (p : UInt8 → Bool) (s : ByteArray) (k : Nat) : k ≤ pastP p s k := by unfold pastP; omega

theorem pastP_le (p : UInt8 → Bool) (s : ByteArray) (k : Nat) (h : k ≤ s.size) : pastP p s k ≤ s.size := by
  unfold pastP spanAt
  have h1 := (List.takeWhile_sublist p (l := s.data.toList.drop k)).length_le
  have h2 : (s.data.toList.drop k).length = s.size - k := by simp
  omega
end Go.Proofs.YtjadjmkbjolklaaGreatDoor
namespace Go.Proofs.YtjadjmkbjolklaaGreatDoor
open Go.RowKit

theorem ret_int {k : IntKind} {a b : Int} (h : a = b) : Ending.returned (.int k a) = .returned (.int k b) := by rw [h]

set_option maxHeartbeats 400000 in
theorem classOf_any (b : Int) (w : World) (hb : 0 ≤ b) (hb' : b ≤ 255) :
    Calls Tryz.prog 60 #[.int .u8 b] w fun e w' => e = .returned (.int .u8 (cls b)) ∧ w = w' := by
  go_enter Tryz.func60, Tryz.ntmps60
  go_wp2_with (go_at_call 52; refine (Tryz.strings_IndexByte _ _ _).mono ?_; rintro e w' ⟨rfl, rfl⟩)
  all_goals go_ret
  all_goals refine ⟨ret_int ?_, rfl⟩
  all_goals unfold cls
  all_goals (simp only [beq_iff_eq, beq_eq_false_iff_ne, ne_eq, marksL] at *)
  all_goals (repeat' split)
  all_goals first | rfl | omega | exact (if_pos ‹_›).symm | exact (if_neg (Int.not_le.2 ‹_›)).symm

end Go.Proofs.YtjadjmkbjolklaaGreatDoor
namespace Go.Proofs.YtjadjmkbjolklaaGreatDoor
open Go.RowKit

/-- Is a byte of one of some classes? -/
def inCls (zs : List Int) (c : UInt8) : Bool := zs.any fun y => cls c.toNat == y

set_option maxHeartbeats 400000 in
theorem past_any (s : ByteArray) (k : Nat) (b off n c : Nat) (zs : List Int) (w : World) (hs : s.size ≤ maxLen) (hk' : k ≤ s.size)
    (hn : n ≤ zs.length) (hbig : n ≤ 9223372036854775807) (hc : ∀ j, j < zs.length → w.cell? ⟨b, off + j, none⟩ = some (.int .u8 zs[j]!)) :
    Calls Tryz.prog 45 #[.string s, .int .i64 k, .slice (some ⟨b, off, none⟩) n c] w fun e w' => e = .returned (.int .i64 (pastP (inCls (zs.take n)) s k)) ∧ w = w' := by
  unfold maxLen at hs
  have HC := Lib.hid hc
  clear hc
  go_enter Tryz.func45, Tryz.ntmps45
  go_wp2_with fail
  go_loop [12] (fun i => ∃ j : Nat, k + j ≤ s.size ∧ i = .int .i64 j ∧ Hid (pastP (inCls (zs.take n)) s k = pastP (inCls (zs.take n)) s (k + j))) (fun i => s.size - (intOf i).toNat)
  case atStart => exact ⟨0, by omega, rfl, Lib.hid rfl⟩
  case round =>
    obtain ⟨j, hj, rfl, he⟩ := hrel
    by_cases hlt : k + j < s.size
    · have hbyte : s[k + j].toNat < 256 := UInt8.toNat_lt _
      by_cases hin : inCls (zs.take n) s[k + j] = true
      · have hin' : Hid _ := hin
        have hany : ((zs.take n).any fun y => cls s[k + j].toNat == y) = true := hin
        clear hin
        go_wp2_with (first
          | (go_at_call 60; refine (classOf_any _ _ (by omega) (by omega)).mono ?_; rintro e w' ⟨rfl, rfl⟩)
          | (go_at_call 59; refine (Tryz.slices_Contains_class b off n c zs _ _ hn hbig HC.out).mono ?_; rintro e w' ⟨rfl, rfl⟩))
        go_round
        case rel => exact ⟨j + 1, by omega, by go_num, Lib.hid (by rw [he.out, pastP_yes _ _ _ hlt hin'.out]; rfl)⟩
        case measure => simp [intOf]; omega
      · have hin' : Hid _ := (Bool.not_eq_true _).mp hin
        have hany : ((zs.take n).any fun y => cls s[k + j].toNat == y) = false := (Bool.not_eq_true _).mp hin
        clear hin
        go_wp2_with (first
          | (go_at_call 60; refine (classOf_any _ _ (by omega) (by omega)).mono ?_; rintro e w' ⟨rfl, rfl⟩)
          | (go_at_call 59; refine (Tryz.slices_Contains_class b off n c zs _ _ hn hbig HC.out).mono ?_; rintro e w' ⟨rfl, rfl⟩))
        go_ret
        refine ⟨ret_int ?_, rfl⟩
        rw [he.out, pastP_no _ _ _ hlt hin'.out]
        omega
    · go_wp2_with fail
      go_ret
      refine ⟨ret_int ?_, rfl⟩
      rw [he.out, pastP_end _ _ _ (by omega)]
      omega
end Go.Proofs.YtjadjmkbjolklaaGreatDoor
namespace Go.Proofs.YtjadjmkbjolklaaGreatDoor
open Go

theorem indexByte_span (c : UInt8) : ∀ l : List UInt8, (Lib.indexByte l c < 0 → (l.takeWhile (· != c)).length = l.length) ∧ (0 ≤ Lib.indexByte l c → ((l.takeWhile (· != c)).length : Int) = Lib.indexByte l c) ∧ -1 ≤ Lib.indexByte l c ∧ Lib.indexByte l c < l.length + 1
  | [] => by simp [Lib.indexByte]
  | b :: l => by
    have ih := indexByte_span c l
    unfold Lib.indexByte
    by_cases hb : b = c
    · subst hb
      simp
      omega
    · have h1 : (b == c) = false := by simp [hb]
      have h2 : (b != c) = true := by simp [hb]
      simp only [List.takeWhile_cons, h2, h1, Bool.false_eq_true, if_false, if_true, List.length_cons]
      by_cases hm : Lib.indexByte l c = -1
      · simp only [hm, beq_self_eq_true, if_true]
        have := ih.1 (by omega)
        omega
      · have h3 : (Lib.indexByte l c == -1) = false := by simp [hm]
        simp only [h3, Bool.false_eq_true, if_false]
        have := ih.2.1
        omega

/-- The place of the first line feed from a place on; the end if there is none. -/
def lineEndP (s : ByteArray) (k : Nat) : Nat := pastP (fun c => c != 10) s k
end Go.Proofs.YtjadjmkbjolklaaGreatDoor
namespace Go.Proofs.YtjadjmkbjolklaaGreatDoor
open Go.RowKit

theorem bcell {W w1 : World} (hb : Below W.heap.size W w1) : (∀ b o, b < W.heap.size → w1.cell? ⟨b, o, none⟩ = W.cell? ⟨b, o, none⟩) ∧ (∀ b o, b < W.heap.size → w1.frozen? ⟨b, o, none⟩ = W.frozen? ⟨b, o, none⟩) :=
  ⟨fun b o h => hb.cell (p := ⟨b, o, none⟩) h, fun b o h => hb.frozen (p := ⟨b, o, none⟩) h⟩

/-- A new block of numbers reads as they are. -/
theorem new_u8 (w : World) (t : TypeId) (zs : List Int) (j : Nat) (hj : j < zs.length) :
    (w.alloc (.cells (zs.map (Value.int .u8)).toArray t)).cell? ⟨w.heap.size, 0 + j, none⟩ = some (.int .u8 zs[j]!) := by
  rw [World.cell?_alloc_at _ _ _ _ rfl]
  simp [hj]

theorem past_new (s : ByteArray) (k : Int) (zs : List Int) (w : World) (hs : s.size ≤ maxLen) (hk : 0 ≤ k) (hk' : k ≤ s.size) (hbig : zs.length ≤ 9223372036854775807) :
    Calls Tryz.prog 45 #[.string s, .int .i64 k, .slice (some ⟨w.heap.size, 0, none⟩) zs.length zs.length] (w.alloc (.cells (zs.map (Value.int .u8)).toArray 93))
      fun e w' => e = .returned (.int .i64 (pastP (inCls zs) s k.toNat)) ∧ w.alloc (.cells (zs.map (Value.int .u8)).toArray 93) = w' := by
  obtain ⟨n, rfl⟩ := Int.eq_ofNat_of_zero_le hk
  have h := past_any s n w.heap.size 0 zs.length zs.length zs (w.alloc (.cells (zs.map (Value.int .u8)).toArray 93)) hs (by omega) (Nat.le_refl _) hbig (new_u8 w 93 zs)
  rw [List.take_length] at h
  exact h

def txt (s : ByteArray) : Nat := pastP (inCls [1, 2, 3, 4, 5, 6, 7]) s 0

theorem past7 (s : ByteArray) (w : World) (hs : s.size ≤ maxLen) :
    Calls Tryz.prog 45 #[.string s, .int .i64 0, .slice (some ⟨w.heap.size, 0, none⟩) 7 7] (w.alloc (.cells #[.int .u8 1, .int .u8 2, .int .u8 3, .int .u8 4, .int .u8 5, .int .u8 6, .int .u8 7] 93))
      fun e w' => e = .returned (.int .i64 (txt s)) ∧ w.alloc (.cells #[.int .u8 1, .int .u8 2, .int .u8 3, .int .u8 4, .int .u8 5, .int .u8 6, .int .u8 7] 93) = w' :=
  past_new s 0 [1, 2, 3, 4, 5, 6, 7] w hs (by omega) (by omega) (by simp)

theorem past3 (s : ByteArray) (k : Int) (w : World) (hs : s.size ≤ maxLen) (hk : 0 ≤ k) (hk' : k ≤ s.size) :
    Calls Tryz.prog 45 #[.string s, .int .i64 k, .slice (some ⟨w.heap.size, 0, none⟩) 3 3] (w.alloc (.cells #[.int .u8 2, .int .u8 3, .int .u8 4] 93))
      fun e w' => e = .returned (.int .i64 (pastP (inCls [2, 3, 4]) s k.toNat)) ∧ w.alloc (.cells #[.int .u8 2, .int .u8 3, .int .u8 4] 93) = w' :=
  past_new s k [2, 3, 4] w hs hk hk' (by simp)

theorem past1 (c : Int) (s : ByteArray) (k : Int) (w : World) (hs : s.size ≤ maxLen) (hk : 0 ≤ k) (hk' : k ≤ s.size) :
    Calls Tryz.prog 45 #[.string s, .int .i64 k, .slice (some ⟨w.heap.size, 0, none⟩) 1 1] (w.alloc (.cells #[.int .u8 c] 93))
      fun e w' => e = .returned (.int .i64 (pastP (inCls [c]) s k.toNat)) ∧ w.alloc (.cells #[.int .u8 c] 93) = w' :=
  past_new s k [c] w hs hk hk' (by simp)

theorem txt_le (s : ByteArray) : txt s ≤ s.size := pastP_le _ _ _ (by omega)

set_option maxHeartbeats 400000 in
theorem firstAlien_any (s : ByteArray) (w : World) (hs : s.size ≤ maxLen) :
    Calls Tryz.prog 43 #[.string s] w fun e w' => e = .returned (.int .i64 (txt s)) ∧ Below w.heap.size w w' := by
  go_enter Tryz.func43, Tryz.ntmps43
  go_wp2_with (go_at_call 45; refine (past7 s _ hs).mono ?_; rintro e w' ⟨rfl, rfl⟩)
  go_ret
  exact ⟨rfl, (Below.refl _ _).alloc (Nat.le_refl _) _⟩

/-- The error of a text, and where it is. -/
def textErr (s : ByteArray) : Int × Int := if 2500 < s.size then (0, 5) else if txt s < s.size then (txt s, 2) else (0, 0)

theorem ret_ii {k k' : IntKind} {a b c d : Int} (h : a = c) (h' : b = d) : Ending.returned (.tuple #[.int k a, .int k' b]) = .returned (.tuple #[.int k c, .int k' d]) := by rw [h, h']

set_option maxHeartbeats 400000 in
theorem textError_any (s : ByteArray) (w : World) (hs : s.size ≤ maxLen) :
    Calls Tryz.prog 15 #[.string s] w fun e w' => e = .returned (.tuple #[.int .i64 (textErr s).1, .int .i64 (textErr s).2]) ∧ Below w.heap.size w w' := by
  have hx := txt_le s
  go_enter Tryz.func15, Tryz.ntmps15
  go_wp2_with (go_at_call 43; refine (firstAlien_any s _ hs).mono ?_; rintro e w' ⟨rfl, hb⟩)
  all_goals go_ret2
  all_goals refine ⟨ret_ii (by unfold textErr; (repeat' split) <;> first | rfl | omega) (by unfold textErr; (repeat' split) <;> first | rfl | omega), ?_⟩
  all_goals first | exact Below.refl _ _ | assumption

theorem idx10 (s : ByteArray) (k : Int) (w : World) (hk : 0 ≤ k) (hk' : k ≤ s.size) :
    Calls Tryz.prog 52 #[.string (s.extract k.toNat s.size), .int .u8 10] w fun e w' => ∃ r : Int, e = .returned (.int .i64 r) ∧ w = w' ∧ -1 ≤ r ∧ r ≤ s.size - k ∧
      Hid ((r < 0 → lineEndP s k.toNat = s.size) ∧ (0 ≤ r → (lineEndP s k.toNat : Int) = k + r)) := by
  refine (Tryz.strings_IndexByte _ _ _).mono ?_
  rintro e w' ⟨rfl, rfl⟩
  have hx : (s.extract k.toNat s.size).data.toList = s.data.toList.drop k.toNat := by
    simp [List.take_of_length_le]
  rw [hx]
  have h := indexByte_span 10 (s.data.toList.drop k.toNat)
  have hl : (s.data.toList.drop k.toNat).length = s.size - k.toNat := by simp
  rw [hl] at h
  refine ⟨_, rfl, rfl, h.2.2.1, ?_, ?_⟩
  · have := h.2.2.2; change Lib.indexByte _ 10 ≤ _; omega
  · refine Lib.hid ⟨fun hr => ?_, fun hr => ?_⟩
    · have h1 := h.1 hr
      unfold lineEndP pastP spanAt
      omega
    · have h1 := h.2.1 hr
      unfold lineEndP pastP spanAt
      change _ = k + Lib.indexByte _ 10
      omega

set_option maxHeartbeats 400000 in
theorem lineEnd_any (s : ByteArray) (k : Int) (w : World) (hs : s.size ≤ maxLen) (hk : 0 ≤ k) (hk' : k ≤ s.size) :
    Calls Tryz.prog 20 #[.string s, .int .i64 k] w fun e w' => e = .returned (.int .i64 (lineEndP s k.toNat)) ∧ w = w' := by
  unfold maxLen at hs
  go_enter Tryz.func20, Tryz.ntmps20
  go_wp2_with (go_at_call 52; refine (idx10 s k _ hk hk').mono ?_; rintro e w' ⟨r, rfl, rfl, hr1, hr2, HR⟩)
  all_goals go_ret
  · exact ⟨ret_int (HR.out.2 (by assumption)).symm, rfl⟩
  · exact ⟨ret_int (by rw [HR.out.1 (by assumption)]), rfl⟩
end Go.Proofs.YtjadjmkbjolklaaGreatDoor
namespace Go.Proofs.YtjadjmkbjolklaaGreatDoor
open Go.RowKit

theorem le_max {n : Nat} (h : n ≤ 140737488355328) : n ≤ maxLen := by unfold maxLen; omega

/-- Do two bytes stand at a place? -/
def pre2 (s : ByteArray) (n : Nat) (a b : UInt8) : Bool := Lib.hasPrefix (s.data.toList.drop n) [a, b]

theorem pre2_le {s : ByteArray} {n : Nat} {a b : UInt8} (h : pre2 s n a b = true) : n + 2 ≤ s.size := by
  unfold pre2 Lib.hasPrefix at h
  have := (List.isPrefixOf_iff_prefix.1 h).length_le
  simp at this
  omega

theorem hasPrefix2 (s : ByteArray) (n : Nat) (a b : UInt8) (w : World) :
    Calls Tryz.prog 61 #[.string (s.extract n s.size), .string ⟨#[a, b]⟩] w fun e w' => e = .returned (.bool (pre2 s n a b)) ∧ w = w' := by
  refine (Tryz.strings_HasPrefix _ _ _).mono ?_
  rintro e w' ⟨rfl, rfl⟩
  have hx : (s.extract n s.size).data.toList = s.data.toList.drop n := by simp [List.take_of_length_le]
  rw [hx]
  exact ⟨rfl, rfl⟩

/-- The place behind the piece that begins at a place. -/
def pieceEndP (s : ByteArray) (k : Nat) : Nat :=
  if cls (s[k]!).toNat = 2 ∨ cls (s[k]!).toNat = 4 then pastP (inCls [2, 3, 4]) s k
  else if cls (s[k]!).toNat = 6 then lineEndP s k
  else if pre2 s k 58 61 = true ∨ pre2 s k 45 62 = true then k + 2
  else k + 1

set_option maxHeartbeats 400000 in
theorem pieceEnd_any (s : ByteArray) (k : Int) (w : World) (hs : s.size ≤ 140737488355328) (hk : 0 ≤ k) (hk' : k < s.size) :
    Calls Tryz.prog 46 #[.string s, .int .i64 k] w fun e w' => e = .returned (.int .i64 (pieceEndP s k.toNat)) ∧ Below w.heap.size w w' := by
  obtain ⟨n, rfl⟩ := Int.eq_ofNat_of_zero_le hk
  have hn : n < s.size := by omega
  have hbyte : s[n].toNat < 256 := UInt8.toNat_lt _
  have HG : Hid (s[n]! = s[n]) := Lib.hid (by simp [hn])
  go_enter Tryz.func46, Tryz.ntmps46
  go_wp2_with (first
    | (go_at_call 60; refine (classOf_any _ _ (by omega) (by omega)).mono ?_; rintro e w' ⟨rfl, rfl⟩)
    | (go_at_call 45; refine (past3 s _ _ (le_max hs) (by omega) (by omega)).mono ?_; rintro e w' ⟨rfl, rfl⟩)
    | (go_at_call 20; refine (lineEnd_any s _ _ (le_max hs) (by omega) (by omega)).mono ?_; rintro e w' ⟨rfl, rfl⟩)
    | (go_at_call 61; refine (hasPrefix2 _ _ _ _ _).mono ?_; rintro e w' ⟨rfl, rfl⟩))
  all_goals go_ret
  all_goals refine ⟨ret_int ?_, ?_⟩
  all_goals first
    | exact Below.refl _ _
    | exact (Below.refl _ _).alloc (Nat.le_refl _) _
    | skip
  all_goals (rw [Int.toNat_natCast]; unfold pieceEndP; rw [HG.out]; simp only [beq_iff_eq, beq_eq_false_iff_ne, ne_eq] at *)
  all_goals simp [*]
end Go.Proofs.YtjadjmkbjolklaaGreatDoor
namespace Go.Proofs.YtjadjmkbjolklaaGreatDoor
open Go.RowKit Go.MapKept

theorem alloc_set (w : World) (o o' : Obj) : ({ w.alloc o with heap := (w.alloc o).heap.setIfInBounds w.heap.size o' } : World) = w.alloc o' := by
  show ({ w with heap := (w.heap.push o).setIfInBounds w.heap.size o' } : World) = { w with heap := w.heap.push o' }
  congr 1
  apply Array.ext'
  simp

/-- A new string put into a map that lies last. -/
theorem run_insert_new {P : Program} (w : World) {T K E : TypeId} (hT : P.underlying T = some (.map K E)) (hK : P.underlying K = some .string) (es : Array MapEntry) (c : Nat) (s : ByteArray) (v : Value)
    (hnew : Instr.findNow .string (.string s) es.toList 0 = some none) :
    (Instr.mapUpdate T (.map (some w.heap.size)) (.string s) v).run P (w.alloc (.map es c)) = .ok () (w.alloc (.map (es.push ⟨.string s, v, c⟩) (c + 1))) := by
  have hb := (heap_alloc w (.map es c)).1
  have hk : IsKey .string (.string s) := by simp [IsKey]
  simp only [Instr.mapUpdate, Sem.run_bind, run_underlying hT, Result.andThen, MapKept.run_getObj_map hb, run_checkKey hK hk, run_findKey hK hnew, MapKept.run_setObj_map _ hb]
  exact congrArg (Result.ok ()) (alloc_set w (.map es c) _)

/-- The keywords, in the order in which they are put. -/
def kwL : List ByteArray := [⟨#[97, 110, 100]⟩, ⟨#[97, 115]⟩, ⟨#[98, 111, 111, 108]⟩, ⟨#[99, 101, 108, 108]⟩, ⟨#[99, 104, 111, 111, 115, 101]⟩, ⟨#[99, 111, 109]⟩, ⟨#[100, 101, 102]⟩, ⟨#[100, 111]⟩, ⟨#[101, 108, 115, 101]⟩, ⟨#[101, 120, 112, 111, 114, 116]⟩, ⟨#[102, 97, 108, 115, 101]⟩, ⟨#[102, 110]⟩, ⟨#[103, 101, 116]⟩, ⟨#[104, 97, 110, 103]⟩, ⟨#[105, 102]⟩, ⟨#[105, 109, 112, 111, 114, 116]⟩, ⟨#[105, 110]⟩, ⟨#[105, 110, 116]⟩, ⟨#[106, 117, 109, 112]⟩, ⟨#[108, 97, 98, 101, 108]⟩, ⟨#[110, 101, 119]⟩, ⟨#[110, 111, 116]⟩, ⟨#[110, 111, 116, 105, 99, 101]⟩, ⟨#[111, 102]⟩, ⟨#[111, 114]⟩, ⟨#[112, 117, 116]⟩, ⟨#[115, 107, 105, 112]⟩, ⟨#[116, 104, 101, 110]⟩, ⟨#[116, 114, 117, 101]⟩, ⟨#[119, 104, 105, 108, 101]⟩]

def kwArr (n : Nat) : Array MapEntry := ((kwL.take n).zipIdx.map fun (s, i) => (⟨.string s, .bool true, i⟩ : MapEntry)).toArray

/-- Block b is the map of the keywords. -/
def KwMap (w : World) (b : Nat) : Prop := w.heap[b]? = some (.map (kwArr 30) 30)

theorem KwMap.lt {w : World} {b : Nat} (h : KwMap w b) : b < w.heap.size := (Array.getElem?_eq_some_iff.1 h).1
theorem KwMap.below {w w' : World} {B b : Nat} (h : KwMap w b) (hb : Below B w w') (hB : b < B) : KwMap w' b := (hb.block b hB).trans h

def isKw (s : ByteArray) : Bool := kwL.any fun k => k.data.toList == s.data.toList

theorem kw_put (n : Nat) (s : ByteArray) (h1 : Instr.findNow .string (.string s) (kwArr n).toList 0 = some none) (h2 : (kwArr n).push ⟨.string s, .bool true, n⟩ = kwArr (n + 1)) (w : World) :
    (Instr.mapUpdate 54 (.map (some w.heap.size)) (.string s) (.bool true)).run Tryz.prog (w.alloc (.map (kwArr n) n)) = .ok () (w.alloc (.map (kwArr (n + 1)) (n + 1))) := by
  rw [run_insert_new w Tryz.underlying54 Tryz.underlying9 (kwArr n) n s (.bool true) h1, h2]

theorem isKw_find (s : ByteArray) : ∀ (l : List ByteArray) (i n : Nat),
    (∃ j : Nat, Instr.findNow .string (.string s) ((l.zipIdx i).map fun (k, i) => (⟨.string k, .bool true, i⟩ : MapEntry)) n = some (some (j, .bool true)) ∧ (l.any fun k => k.data.toList == s.data.toList) = true) ∨
    (Instr.findNow .string (.string s) ((l.zipIdx i).map fun (k, i) => (⟨.string k, .bool true, i⟩ : MapEntry)) n = some none ∧ (l.any fun k => k.data.toList == s.data.toList) = false)
  | [], i, n => .inr ⟨rfl, rfl⟩
  | k :: l, i, n => by
    rw [List.zipIdx_cons, List.map_cons, List.any_cons]
    by_cases h : s = k
    · subst h
      have h0 : (s == s) = true := (MapKept.bytes_beq s s).2 rfl
      exact .inl ⟨n, by simp [Instr.findNow, Instr.sameNow, h0], by simp⟩
    · have h1 : (s == k) = false := by
        rw [Bool.eq_false_iff]
        exact fun e => h ((MapKept.bytes_beq s k).1 e)
      have h2 : (k.data.toList == s.data.toList) = false := by
        rw [Bool.eq_false_iff]
        intro e
        apply h
        have e1 := eq_of_beq e
        obtain ⟨⟨x⟩⟩ := k
        obtain ⟨⟨y⟩⟩ := s
        simp_all
      rw [h2, Bool.false_or]
      rcases isKw_find s l (i + 1) (n + 1) with ⟨j, e1, e2⟩ | ⟨e1, e2⟩
      · exact .inl ⟨j, by simp [Instr.findNow, Instr.sameNow, h1, e1], e2⟩
      · exact .inr ⟨by simp [Instr.findNow, Instr.sameNow, h1, e1], e2⟩

/-- The map of the keywords, asked. -/
theorem kw_look {w : World} {b : Nat} (h : KwMap w b) (s : ByteArray) :
    (Instr.lookup 54 (.map (some b)) (.string s) false).run Tryz.prog w = .ok (.bool (isKw s)) w := by
  have hk : IsKey .string (.string s) := by simp [IsKey]
  have hz : (zeroValue 4).run Tryz.prog w = .ok (.bool false) w := by kernel_rfl
  have hl : (kwArr 30).toList = (kwL.zipIdx 0).map fun (k, i) => (⟨.string k, .bool true, i⟩ : MapEntry) := by kernel_rfl
  rcases isKw_find s kwL 0 0 with ⟨j, e1, e2⟩ | ⟨e1, e2⟩
  · rw [← hl] at e1
    unfold isKw
    rw [e2]
    simp only [Instr.lookup, Sem.run_bind, run_underlying Tryz.underlying54, Result.andThen, MapKept.run_getObj_map h, Sem.run_pure, run_checkKey Tryz.underlying9 hk, run_findKey Tryz.underlying9 e1]
    simp
  · rw [← hl] at e1
    unfold isKw
    rw [e2]
    simp only [Instr.lookup, Sem.run_bind, run_underlying Tryz.underlying54, Result.andThen, MapKept.run_getObj_map h, Sem.run_pure, run_checkKey Tryz.underlying9 hk, run_findKey Tryz.underlying9 e1, hz]
    simp

set_option maxHeartbeats 1000000 in
set_option maxRecDepth 100000 in
theorem keywords_any (w : World) :
    Calls Tryz.prog 17 #[] w fun e w' => e = .returned (.map (some w.heap.size)) ∧ w' = w.alloc (.map (kwArr 30) 30) := by
  have hm : ∀ w : World, (Instr.makeMap 54 none).run Tryz.prog w = .ok (.map (some w.heap.size)) (w.alloc (.map (kwArr 0) 0)) := fun w => by
    rw [run_makeMap]
    rfl
  have i0 := kw_put 0 ⟨#[97, 110, 100]⟩ (by kernel_rfl) (by kernel_rfl)
  have i1 := kw_put 1 ⟨#[97, 115]⟩ (by kernel_rfl) (by kernel_rfl)
  have i2 := kw_put 2 ⟨#[98, 111, 111, 108]⟩ (by kernel_rfl) (by kernel_rfl)
  have i3 := kw_put 3 ⟨#[99, 101, 108, 108]⟩ (by kernel_rfl) (by kernel_rfl)
  have i4 := kw_put 4 ⟨#[99, 104, 111, 111, 115, 101]⟩ (by kernel_rfl) (by kernel_rfl)
  have i5 := kw_put 5 ⟨#[99, 111, 109]⟩ (by kernel_rfl) (by kernel_rfl)
  have i6 := kw_put 6 ⟨#[100, 101, 102]⟩ (by kernel_rfl) (by kernel_rfl)
  have i7 := kw_put 7 ⟨#[100, 111]⟩ (by kernel_rfl) (by kernel_rfl)
  have i8 := kw_put 8 ⟨#[101, 108, 115, 101]⟩ (by kernel_rfl) (by kernel_rfl)
  have i9 := kw_put 9 ⟨#[101, 120, 112, 111, 114, 116]⟩ (by kernel_rfl) (by kernel_rfl)
  have i10 := kw_put 10 ⟨#[102, 97, 108, 115, 101]⟩ (by kernel_rfl) (by kernel_rfl)
  have i11 := kw_put 11 ⟨#[102, 110]⟩ (by kernel_rfl) (by kernel_rfl)
  have i12 := kw_put 12 ⟨#[103, 101, 116]⟩ (by kernel_rfl) (by kernel_rfl)
  have i13 := kw_put 13 ⟨#[104, 97, 110, 103]⟩ (by kernel_rfl) (by kernel_rfl)
  have i14 := kw_put 14 ⟨#[105, 102]⟩ (by kernel_rfl) (by kernel_rfl)
  have i15 := kw_put 15 ⟨#[105, 109, 112, 111, 114, 116]⟩ (by kernel_rfl) (by kernel_rfl)
  have i16 := kw_put 16 ⟨#[105, 110]⟩ (by kernel_rfl) (by kernel_rfl)
  have i17 := kw_put 17 ⟨#[105, 110, 116]⟩ (by kernel_rfl) (by kernel_rfl)
  have i18 := kw_put 18 ⟨#[106, 117, 109, 112]⟩ (by kernel_rfl) (by kernel_rfl)
  have i19 := kw_put 19 ⟨#[108, 97, 98, 101, 108]⟩ (by kernel_rfl) (by kernel_rfl)
  have i20 := kw_put 20 ⟨#[110, 101, 119]⟩ (by kernel_rfl) (by kernel_rfl)
  have i21 := kw_put 21 ⟨#[110, 111, 116]⟩ (by kernel_rfl) (by kernel_rfl)
  have i22 := kw_put 22 ⟨#[110, 111, 116, 105, 99, 101]⟩ (by kernel_rfl) (by kernel_rfl)
  have i23 := kw_put 23 ⟨#[111, 102]⟩ (by kernel_rfl) (by kernel_rfl)
  have i24 := kw_put 24 ⟨#[111, 114]⟩ (by kernel_rfl) (by kernel_rfl)
  have i25 := kw_put 25 ⟨#[112, 117, 116]⟩ (by kernel_rfl) (by kernel_rfl)
  have i26 := kw_put 26 ⟨#[115, 107, 105, 112]⟩ (by kernel_rfl) (by kernel_rfl)
  have i27 := kw_put 27 ⟨#[116, 104, 101, 110]⟩ (by kernel_rfl) (by kernel_rfl)
  have i28 := kw_put 28 ⟨#[116, 114, 117, 101]⟩ (by kernel_rfl) (by kernel_rfl)
  have i29 := kw_put 29 ⟨#[119, 104, 105, 108, 101]⟩ (by kernel_rfl) (by kernel_rfl)
  go_enter Tryz.func17, Tryz.ntmps17
  go_wp2_with fail
  go_ret
  exact ⟨rfl, rfl⟩
end Go.Proofs.YtjadjmkbjolklaaGreatDoor
namespace Go.Proofs.YtjadjmkbjolklaaGreatDoor
open Go.RowKit

/-- The variables strconv.ErrRange and strconv.ErrSyntax hold errors. -/
def NumVars (w : World) : Prop := (∃ tp p, w.var? Tryz.prog "strconv.ErrRange" = some #[.iface tp p]) ∧ (∃ tp p, w.var? Tryz.prog "strconv.ErrSyntax" = some #[.iface tp p])

theorem gRange : Tryz.prog.globalNamed "strconv.ErrRange" = some 2 := by kernel_rfl
theorem gSyntax : Tryz.prog.globalNamed "strconv.ErrSyntax" = some 1 := by kernel_rfl

theorem NumVars.below {w w' : World} {B : Nat} (h : NumVars w) (hb : Below B w w') (h1 : 2 < B) (h2 : 1 < B) : NumVars w' := by
  obtain ⟨⟨t, p, e⟩, ⟨t', p', e'⟩⟩ := h
  exact ⟨⟨t, p, var?_below hb gRange h1 e⟩, ⟨t', p', var?_below hb gSyntax h2 e'⟩⟩

theorem NumVars.lt {w : World} (h : NumVars w) : 2 < w.heap.size ∧ 1 < w.heap.size := by
  obtain ⟨⟨t, p, e⟩, ⟨t', p', e'⟩⟩ := h
  unfold World.var? at e e'
  rw [gRange] at e
  rw [gSyntax] at e'
  constructor
  · rcases Nat.lt_or_ge 2 w.heap.size with h | h
    · exact h
    · simp [Array.getElem?_eq_none h] at e
  · rcases Nat.lt_or_ge 1 w.heap.size with h | h
    · exact h
    · simp [Array.getElem?_eq_none h] at e'

theorem NumVars.keep {w w' : World} (h : NumVars w) (hb : Below w.heap.size w w') : NumVars w' := h.below hb h.lt.1 h.lt.2

theorem NumVars.alloc {w : World} (h : NumVars w) (o : Obj) : NumVars (w.alloc o) := h.keep ((Below.refl _ _).alloc (Nat.le_refl _) _)

/-- What strconv.Atoi says of a text: a number that is not too great. -/
def numOk (s : ByteArray) : Bool := match Lib.atoiAll s.data.toList with
    | .ok v => decide (v ≤ 1000000)
    | _ => false

/-- The error of letters and digits that begin with a digit. -/
def numErr (s : ByteArray) : Int :=
  if pastP (inCls [4]) s 0 < s.size then 4
  else if (s[0]!).toNat = 48 ∧ 1 < s.size then 4
  else if numOk s = true then 0 else 3

theorem atoi_any (s : ByteArray) (w : World) (hs : s.size ≤ 140737488355328) (hv : NumVars w) :
    Calls Tryz.prog 71 #[.string s] w fun e w' => ∃ (v : Int) (ev : Value), e = .returned (.tuple #[.int .i64 v, ev]) ∧ Below w.heap.size w w' ∧
      Hid ((ev = .nilIface ∧ numOk s = decide (v ≤ 1000000)) ∨ ((∃ t p, ev = .iface t p) ∧ numOk s = false)) := by
  obtain ⟨⟨t, p, e⟩, ⟨t', p', e'⟩⟩ := hv
  cases h : Lib.atoiAll s.data.toList with
  | ok v =>
    refine (Tryz.strconv_Atoi_ok s (by omega) v h w).mono ?_
    rintro e w' ⟨rfl, hw⟩
    refine ⟨v, .nilIface, rfl, ?_, Lib.hid (.inl ⟨rfl, by simp [numOk, h]⟩)⟩
    rcases hw with rfl | ⟨t, rfl⟩
    · exact Below.refl _ _
    · exact Lib.bytesWorld_below _ _ _
  | range =>
    refine (Tryz.strconv_Atoi_range_var s (by omega) h _ _ w e).mono ?_
    rintro e w' ⟨N, rfl, _, _, hb⟩
    exact ⟨_, _, rfl, hb, Lib.hid (.inr ⟨⟨_, _, rfl⟩, by simp [numOk, h]⟩)⟩
  | _ =>
    refine (Any.strconv_Atoi_syntax_var Tryz.laysC172 s (by omega) h _ _ w e').mono ?_
    rintro e w' ⟨N, rfl, _, _, hb⟩
    exact ⟨_, _, rfl, hb, Lib.hid (.inr ⟨⟨_, _, rfl⟩, by simp [numOk, h]⟩)⟩

set_option maxHeartbeats 400000 in
theorem numberError_any (s : ByteArray) (w : World) (hs : s.size ≤ 140737488355328) (h0 : 0 < s.size) (hv : NumVars w) :
    Calls Tryz.prog 62 #[.string s] w fun e w' => e = .returned (.int .i64 (numErr s)) ∧ Below w.heap.size w w' := by
  have HV := Lib.hid (hv.alloc (.cells #[.int .u8 4] 93))
  clear hv
  have HG : Hid (s[0]! = s[0]) := Lib.hid (by simp [h0])
  have hbyte : s[0].toNat < 256 := UInt8.toNat_lt _
  by_cases hp : pastP (inCls [4]) s 0 < s.size
  · go_enter Tryz.func62, Tryz.ntmps62
    go_wp2_with (first
      | (go_at_call 45; refine (past1 4 s _ _ (le_max hs) (by omega) (by omega)).mono ?_; rintro e w' ⟨rfl, rfl⟩))
    go_ret
    exact ⟨ret_int (by unfold numErr; rw [if_pos hp]), (Below.refl _ _).alloc (Nat.le_refl _) _⟩
  · by_cases hq : s[0].toNat = 48 ∧ 1 < s.size
    · obtain ⟨hq1, hq2⟩ := hq
      have HQ := Lib.hid hq1
      have hq3 : ((s[0].toNat : Int) == 48) = true := by simp [hq1]
      clear hq1
      go_enter Tryz.func62, Tryz.ntmps62
      go_wp2_with (first
        | (go_at_call 45; refine (past1 4 s _ _ (le_max hs) (by omega) (by omega)).mono ?_; rintro e w' ⟨rfl, rfl⟩))
      go_ret
      exact ⟨ret_int (by unfold numErr; rw [if_neg hp, HG.out, if_pos ⟨HQ.out, hq2⟩]), (Below.refl _ _).alloc (Nat.le_refl _) _⟩
    · have HQ := Lib.hid hq
      by_cases h48 : s[0].toNat = 48
      · have h1 : s.size ≤ 1 := by omega
        have hq3 : ((s[0].toNat : Int) == 48) = true := by simp [h48]
        clear hq h48
        go_enter Tryz.func62, Tryz.ntmps62
        go_wp2_with (first
          | (go_at_call 45; refine (past1 4 s _ _ (le_max hs) (by omega) (by omega)).mono ?_; rintro e w' ⟨rfl, rfl⟩)
          | (go_at_call 71; refine (atoi_any s _ hs HV.out).mono ?_; rintro e w' ⟨v, ev, rfl, hb, hev⟩; rcases hev.out with ⟨rfl, h⟩ | ⟨⟨t, p, rfl⟩, h⟩ <;> (have HE := Lib.hid h; clear h hev)))
        all_goals go_ret
        all_goals refine ⟨ret_int ?_, ((Below.refl _ _).alloc (Nat.le_refl _) _).trans (hb.mono (by simp))⟩
        all_goals unfold numErr
        all_goals rw [if_neg hp, HG.out, if_neg HQ.out, HE.out]
        all_goals simp [*]
      · have hq3 : ((s[0].toNat : Int) == 48) = false := by simp; omega
        clear hq h48
        go_enter Tryz.func62, Tryz.ntmps62
        go_wp2_with (first
          | (go_at_call 45; refine (past1 4 s _ _ (le_max hs) (by omega) (by omega)).mono ?_; rintro e w' ⟨rfl, rfl⟩)
          | (go_at_call 71; refine (atoi_any s _ hs HV.out).mono ?_; rintro e w' ⟨v, ev, rfl, hb, hev⟩; rcases hev.out with ⟨rfl, h⟩ | ⟨⟨t, p, rfl⟩, h⟩ <;> (have HE := Lib.hid h; clear h hev)))
        all_goals go_ret
        all_goals refine ⟨ret_int ?_, ((Below.refl _ _).alloc (Nat.le_refl _) _).trans (hb.mono (by simp))⟩
        all_goals unfold numErr
        all_goals rw [if_neg hp, HG.out, if_neg HQ.out, HE.out]
        all_goals simp [*]
end Go.Proofs.YtjadjmkbjolklaaGreatDoor
namespace Go.Proofs.YtjadjmkbjolklaaGreatDoor
open Go.RowKit

/-- The kind of a piece, and its error. -/
def kindP (s : ByteArray) : Int × Int :=
  if cls (s[0]!).toNat = 2 then (if isKw s = true then (3, 0) else if 12 < s.size then (1, 4) else (1, 0))
  else if cls (s[0]!).toNat = 4 then (2, numErr s)
  else if cls (s[0]!).toNat = 5 then (4, 0)
  else if cls (s[0]!).toNat = 6 then (5, 0)
  else (0, 4)

set_option maxHeartbeats 400000 in
set_option maxRecDepth 100000 in
theorem kindOf_any (s : ByteArray) (b : Nat) (w : World) (hs : s.size ≤ 140737488355328) (h0 : 0 < s.size) (hv : NumVars w) (hk : KwMap w b) :
    Calls Tryz.prog 47 #[.string s, .map (some b)] w fun e w' => e = .returned (.tuple #[.int .u8 (kindP s).1, .int .i64 (kindP s).2]) ∧ Below w.heap.size w w' := by
  have HV := Lib.hid hv
  clear hv
  have hl := kw_look hk s
  clear hk
  have HG : Hid (s[0]! = s[0]) := Lib.hid (by simp [h0])
  have hbyte : s[0].toNat < 256 := UInt8.toNat_lt _
  go_enter Tryz.func47, Tryz.ntmps47
  go_wp2_with (first
    | (go_at_call 60; refine (classOf_any _ _ (by omega) (by omega)).mono ?_; rintro e w' ⟨rfl, rfl⟩)
    | (go_at_call 62; refine (numberError_any s _ hs h0 HV.out).mono ?_; rintro e w' ⟨rfl, hb⟩))
  all_goals go_ret2
  all_goals refine ⟨ret_ii ?_ ?_, ?_⟩
  all_goals first
    | exact Below.refl _ _
    | assumption
    | (unfold kindP; rw [HG.out]; simp only [beq_iff_eq, beq_eq_false_iff_ne, ne_eq] at *; simp [*]; try (split <;> first | rfl | omega))
end Go.Proofs.YtjadjmkbjolklaaGreatDoor
namespace Go.Proofs.YtjadjmkbjolklaaGreatDoor
open Go Go.RowKit

structure Piece where
  kind : Int
  text : ByteArray
  at_ : Nat
  err : Int

def pieceAt (s : ByteArray) (k : Nat) : Piece :=
  { kind := (kindP (s.extract k (pieceEndP s k))).1
    text := if (kindP (s.extract k (pieceEndP s k))).1 = 5 then s.extract (k + 1) (pieceEndP s k) else s.extract k (pieceEndP s k)
    at_ := k
    err := (kindP (s.extract k (pieceEndP s k))).2 }

/-- The pieces from a place on, at which no gap stands. -/
def pcsFrom (s : ByteArray) : Nat → Nat → List Piece
  | 0, _ => []
  | f + 1, k => if k < s.size then pieceAt s k :: pcsFrom s f (pastP (inCls [1]) s (pieceEndP s k)) else []

def pcs (s : ByteArray) : List Piece := pcsFrom s s.size (pastP (inCls [1]) s 0)

theorem pastP_gt (p : UInt8 → Bool) (s : ByteArray) (k : Nat) (h : k < s.size) (hp : p s[k] = true) : k < pastP p s k := by
  rw [pastP_yes p s k h hp]
  exact Nat.lt_of_lt_of_le (Nat.lt_succ_self k) (pastP_ge p s (k + 1))

theorem getBang (s : ByteArray) (k : Nat) (h : k < s.size) : s[k]! = s[k] := by simp [h]

theorem pieceEndP_gt (s : ByteArray) (k : Nat) (h : k < s.size) : k < pieceEndP s k := by
  unfold pieceEndP
  rw [getBang s k h]
  split
  · rename_i hc
    refine pastP_gt _ s k h ?_
    unfold inCls
    simp only [List.any_cons, List.any_nil, Bool.or_false, Bool.or_eq_true, beq_iff_eq]
    omega
  · split
    · rename_i hc
      refine pastP_gt _ s k h ?_
      rw [bne_iff_ne]
      intro e
      rw [e] at hc
      revert hc
      decide
    · split <;> omega

theorem pieceEndP_le (s : ByteArray) (k : Nat) (h : k < s.size) : pieceEndP s k ≤ s.size := by
  unfold pieceEndP
  split
  · exact pastP_le _ _ _ (by omega)
  · split
    · exact pastP_le _ _ _ (by omega)
    · split
      · rename_i hc
        rcases hc with hc | hc
        · exact pre2_le hc
        · exact pre2_le hc
      · omega

theorem pcsFrom_end (s : ByteArray) (f k : Nat) (h : s.size ≤ k) : pcsFrom s f k = [] := by
  cases f
  · rfl
  · rw [pcsFrom, if_neg (by omega)]

theorem pcsFrom_step (s : ByteArray) (f k : Nat) (h : k < s.size) (hf : s.size - k ≤ f) :
    ∃ f', pcsFrom s f k = pieceAt s k :: pcsFrom s f' (pastP (inCls [1]) s (pieceEndP s k)) ∧ s.size - pastP (inCls [1]) s (pieceEndP s k) ≤ f' := by
  obtain ⟨f', rfl⟩ : ∃ f', f = f' + 1 := ⟨f - 1, by omega⟩
  refine ⟨f', by rw [pcsFrom, if_pos h], ?_⟩
  have h1 := pieceEndP_gt s k h
  have h2 := pastP_ge (inCls [1]) s (pieceEndP s k)
  omega
end Go.Proofs.YtjadjmkbjolklaaGreatDoor
namespace Go.Proofs.YtjadjmkbjolklaaGreatDoor
open Go

/-- Is there a line feed at a place? -/
def lf (s : ByteArray) (k : Nat) : Bool := ((s.data[k]!).toNat : Int) == 10

def lineP (s : ByteArray) : Nat → Nat
  | 0 => 1
  | k + 1 => if lf s k = true then lineP s k + 1 else lineP s k

def colP (s : ByteArray) : Nat → Nat
  | 0 => 1
  | k + 1 => if lf s k = true then 1 else colP s k + 1

theorem lf_get (s : ByteArray) (k : Nat) (h : k < s.size) : lf s k = (s[k] == 10) := by
  unfold lf
  have h1 : s.data[k]! = s[k] := by
    exact getElem!_pos s.data k h
  rw [h1, Bool.eq_iff_iff]
  simp only [beq_iff_eq]
  constructor
  · intro h
    have h2 : s[k].toNat = 10 := by omega
    exact UInt8.toNat_inj.1 h2
  · intro h
    rw [h]
    rfl

theorem lineP_pos (s : ByteArray) : ∀ k, 1 ≤ lineP s k
  | 0 => Nat.le_refl _
  | k + 1 => by
    have := lineP_pos s k
    rw [lineP]
    split <;> omega

theorem colP_pos (s : ByteArray) : ∀ k, 1 ≤ colP s k
  | 0 => Nat.le_refl _
  | k + 1 => by
    rw [colP]
    split <;> omega

theorem lineP_le (s : ByteArray) : ∀ k, lineP s k ≤ k + 1
  | 0 => Nat.le_refl _
  | k + 1 => by
    have := lineP_le s k
    rw [lineP]
    split <;> omega

theorem colP_le (s : ByteArray) : ∀ k, colP s k ≤ k + 1
  | 0 => Nat.le_refl _
  | k + 1 => by
    have := colP_le s k
    rw [colP]
    split <;> omega

theorem spot_step (s : ByteArray) (k : Nat) : lineP s k < lineP s (k + 1) ∨ (lineP s k = lineP s (k + 1) ∧ colP s k < colP s (k + 1)) := by
  rw [lineP, colP]
  split
  · exact .inl (by omega)
  · exact .inr ⟨rfl, by omega⟩

theorem spot_less (s : ByteArray) (k : Nat) : ∀ d, lineP s k < lineP s (k + d + 1) ∨ (lineP s k = lineP s (k + d + 1) ∧ colP s k < colP s (k + d + 1))
  | 0 => spot_step s k
  | d + 1 => by
    have h1 := spot_less s k d
    have h2 := spot_step s (k + d + 1)
    rw [show k + (d + 1) + 1 = k + d + 1 + 1 by omega]
    omega

theorem spot_lt {s : ByteArray} {k k' : Nat} (h : k < k') : lineP s k < lineP s k' ∨ (lineP s k = lineP s k' ∧ colP s k < colP s k') := by
  have := spot_less s k (k' - k - 1)
  rwa [show k + (k' - k - 1) + 1 = k' by omega] at this

theorem spot_inj {s : ByteArray} {k k' : Nat} (h1 : lineP s k = lineP s k') (h2 : colP s k = colP s k') : k = k' := by
  rcases Nat.lt_trichotomy k k' with h | h | h
  · have := spot_lt (s := s) h
    omega
  · exact h
  · have := spot_lt (s := s) h
    omega

theorem spot_run (s : ByteArray) (f : Nat) : ∀ d, (∀ j, f ≤ j → j < f + d → lf s j = false) → lineP s (f + d) = lineP s f ∧ colP s (f + d) = colP s f + d
  | 0, _ => ⟨rfl, rfl⟩
  | d + 1, h => by
    have ih := spot_run s f d (fun j h1 h2 => h j h1 (by omega))
    have hd := h (f + d) (by omega) (by omega)
    rw [← Nat.add_assoc, lineP, colP, hd, ih.1, ih.2]
    simp
    omega

theorem countP (s : ByteArray) : ∀ k, k ≤ s.size → lineP s k = 1 + Lib.countByte (s.extract 0 k).data.toList 10
  | 0, _ => by simp [lineP, Lib.countByte]
  | k + 1, h => by
    have ih := countP s k (by omega)
    have e : (s.extract 0 (k + 1)).data.toList = (s.extract 0 k).data.toList ++ [s[k]] := by
      simp only [ByteArray.data_extract, Array.toList_extract, List.extract_eq_take_drop, List.drop_zero, Nat.sub_zero]
      rw [List.take_succ_eq_append_getElem (show k < s.data.toList.length by simp; omega)]
      rfl
    rw [lineP, ih, e, lf_get s k (by omega)]
    unfold Lib.countByte
    rw [List.count_append, List.count_singleton]
    split
    · rfl
    · rfl

theorem lastIdx_col (s : ByteArray) (n : Nat) (hn : n ≤ s.size) : ∀ k, k ≤ n → (k : Int) - Lib.lastIdx (s.extract 0 n) 10 k = colP s k
  | 0, _ => rfl
  | k + 1, h => by
    have ih := lastIdx_col s n hn k (by omega)
    have e : (s.extract 0 n).data[k]! = s.data[k]! := by
      have h1 : k < s.data.size := by have : k < s.size := by omega
                                      exact this
      have h2 : k < (s.extract 0 n).data.size := by simp; omega
      simp only [h1, h2, getElem!_pos]
      simp
    rw [Lib.lastIdx, colP, e]
    unfold lf
    split
    · rename_i h1
      rw [if_pos (by simpa using h1)]
      omega
    · rename_i h1
      rw [if_neg (by simpa using h1)]
      omega
end Go.Proofs.YtjadjmkbjolklaaGreatDoor
namespace Go.Proofs.YtjadjmkbjolklaaGreatDoor
open Go

theorem pastP_all (p : UInt8 → Bool) (s : ByteArray) : ∀ (d k : Nat), s.size - k = d → (∀ j (h : j < s.size), k ≤ j → j < pastP p s k → p s[j] = true) ∧ (∀ h : pastP p s k < s.size, p s[pastP p s k] = false)
  | 0, k, hd => by
    rw [pastP_end p s k (by omega)]
    exact ⟨fun j _ h1 h2 => by omega, fun h => by omega⟩
  | d + 1, k, hd => by
    have hk : k < s.size := by omega
    cases hp : p s[k] with
    | false =>
      rw [pastP_no p s k hk hp]
      exact ⟨fun j _ h1 h2 => by omega, fun _ => hp⟩
    | true =>
      have ih := pastP_all p s d (k + 1) (by omega)
      rw [pastP_yes p s k hk hp]
      refine ⟨fun j h h1 h2 => ?_, ih.2⟩
      by_cases e : j = k
      · subst e
        exact hp
      · exact ih.1 j h (by omega) h2

theorem lineEndP_ge (s : ByteArray) (k : Nat) : k ≤ lineEndP s k := pastP_ge _ s k
theorem lineEndP_le (s : ByteArray) (k : Nat) (h : k ≤ s.size) : lineEndP s k ≤ s.size := pastP_le _ s k h

theorem lineEndP_in (s : ByteArray) (k j : Nat) (h : k ≤ s.size) (h1 : k ≤ j) (h2 : j < lineEndP s k) : lf s j = false := by
  have hl := lineEndP_le s k h
  have hj : j < s.size := by omega
  have := (pastP_all (fun c => c != 10) s _ k rfl).1 j hj h1 h2
  rw [lf_get s j hj]
  simpa using this

theorem lineEndP_lf (s : ByteArray) (k : Nat) (h : lineEndP s k < s.size) : lf s (lineEndP s k) = true := by
  have := (pastP_all (fun c => c != 10) s _ k rfl).2 h
  rw [lf_get s _ h]
  have t : (s[lineEndP s k] != 10) = false := this
  simpa using t

/-- The spots of a line. -/
theorem line_run (s : ByteArray) (f k : Nat) (h : f ≤ s.size) (h1 : f ≤ k) (h2 : k ≤ lineEndP s f) : lineP s k = lineP s f ∧ colP s k = colP s f + (k - f) := by
  have := spot_run s f (k - f) (fun j q1 q2 => lineEndP_in s f j h q1 (by omega))
  rwa [show f + (k - f) = k by omega] at this

theorem line_next (s : ByteArray) (f : Nat) (h : f ≤ s.size) (h1 : lineEndP s f < s.size) : lineP s (lineEndP s f + 1) = lineP s f + 1 ∧ colP s (lineEndP s f + 1) = 1 := by
  have h2 := (line_run s f (lineEndP s f) h (lineEndP_ge s f) (Nat.le_refl _)).1
  have h3 := lineEndP_lf s f h1
  rw [lineP, colP, h3, h2]
  simp

theorem line_mono {s : ByteArray} {k k' : Nat} (h : k ≤ k') : lineP s k ≤ lineP s k' := by
  rcases Nat.lt_or_eq_of_le h with h1 | rfl
  · have := spot_lt (s := s) h1
    omega
  · exact Nat.le_refl _

/-- What At says of a line and a column. -/
def AtSpec (s : ByteArray) (line col r e : Int) : Prop :=
  ((textErr s).2 ≠ 0 ∧ r = 0 ∧ e = (textErr s).2) ∨
  ((textErr s).2 = 0 ∧ e = 0 ∧ ∃ k : Nat, k ≤ s.size ∧ r = k ∧ (lineP s k : Int) = line ∧ (colP s k : Int) = col) ∨
  ((textErr s).2 = 0 ∧ e = 7 ∧ r = 0 ∧ ∀ k : Nat, k ≤ s.size → ¬((lineP s k : Int) = line ∧ (colP s k : Int) = col))

theorem AtSpec.one {s : ByteArray} {line col r e r' e' : Int} (h : AtSpec s line col r e) (h' : AtSpec s line col r' e') : r = r' ∧ e = e' := by
  rcases h with ⟨h1, rfl, rfl⟩ | ⟨h1, rfl, k, hk, rfl, h2, h3⟩ | ⟨h1, rfl, rfl, h2⟩
  · rcases h' with ⟨g1, rfl, rfl⟩ | ⟨g1, _⟩ | ⟨g1, _⟩
    · exact ⟨rfl, rfl⟩
    · exact absurd g1 h1
    · exact absurd g1 h1
  · rcases h' with ⟨g1, rfl, rfl⟩ | ⟨g1, rfl, k', gk, rfl, g2, g3⟩ | ⟨g1, rfl, rfl, g2⟩
    · exact absurd h1 g1
    · have := spot_inj (s := s) (k := k) (k' := k') (by omega) (by omega)
      exact ⟨by omega, rfl⟩
    · exact absurd ⟨h2, h3⟩ (g2 k hk)
  · rcases h' with ⟨g1, rfl, rfl⟩ | ⟨g1, rfl, k', gk, rfl, g2, g3⟩ | ⟨g1, rfl, rfl, g2⟩
    · exact absurd h1 g1
    · exact absurd ⟨g2, g3⟩ (h2 k' gk)
    · exact ⟨rfl, rfl⟩

/-- There is no such line. -/
theorem at_past {s : ByteArray} {f : Nat} {line col : Int} (ht : (textErr s).2 = 0) (h : f ≤ s.size) (he : lineEndP s f = s.size) (hl : (lineP s f : Int) < line) : AtSpec s line col 0 7 := by
  refine .inr (.inr ⟨ht, rfl, rfl, fun k hk => fun hh => ?_⟩)
  have h1 := (line_run s f s.size h h (by omega)).1
  have h2 := line_mono (s := s) hk
  omega

/-- There is no such column. -/
theorem at_wide {s : ByteArray} {f : Nat} {line col : Int} (ht : (textErr s).2 = 0) (h : f ≤ s.size) (hl : (lineP s f : Int) = line) (hc : colP s f = 1) (hw : (lineEndP s f : Int) - f < col - 1) : AtSpec s line col 0 7 := by
  refine .inr (.inr ⟨ht, rfl, rfl, fun k hk => fun hh => ?_⟩)
  by_cases h1 : k < f
  · have h2 := spot_lt (s := s) h1
    have h3 := colP_pos s k
    omega
  · by_cases h2 : k ≤ lineEndP s f
    · have h3 := line_run s f k h (by omega) h2
      omega
    · have h3 := line_next s f h (by omega)
      have h4 := line_mono (s := s) (k := lineEndP s f + 1) (k' := k) (by omega)
      omega

/-- There it is. -/
theorem at_there {s : ByteArray} {f : Nat} {line col : Int} (ht : (textErr s).2 = 0) (h : f ≤ s.size) (hl : (lineP s f : Int) = line) (hc : colP s f = 1) (h1 : 1 ≤ col) (hw : col - 1 ≤ (lineEndP s f : Int) - f) : AtSpec s line col (f + col - 1) 0 := by
  have hle := lineEndP_le s f h
  have hr := line_run s f (f + col - 1).toNat h (by omega) (by omega)
  exact .inr (.inl ⟨ht, rfl, (f + col - 1).toNat, by omega, by omega, by omega, by omega⟩)

theorem at_small {s : ByteArray} {line col : Int} (ht : (textErr s).2 = 0) (h : line < 1 ∨ col < 1) : AtSpec s line col 0 7 := by
  refine .inr (.inr ⟨ht, rfl, rfl, fun k _ => fun hh => ?_⟩)
  have h1 := lineP_pos s k
  have h2 := colP_pos s k
  omega
end Go.Proofs.YtjadjmkbjolklaaGreatDoor
namespace Go.Proofs.YtjadjmkbjolklaaGreatDoor
open Go Go.RowKit

structure Spl where
  from_ : Int
  to_ : Int
  text : ByteArray

/-- A slice value that holds splices, in a block below B. -/
def SplIn (W : World) (B : Nat) (v : Value) (l : List Spl) : Prop :=
  ∃ A c, v = .slice A l.length c ∧ ∀ i (x : Spl), l[i]? = some x → ∃ b off, A = some ⟨b, off, none⟩ ∧ b < B ∧
    W.cell? ⟨b, off + i * 3, none⟩ = some (.int .i64 x.from_) ∧ W.cell? ⟨b, off + i * 3 + 1, none⟩ = some (.int .i64 x.to_) ∧ W.cell? ⟨b, off + i * 3 + 2, none⟩ = some (.string x.text)

theorem SplIn.more {W : World} {B B' : Nat} {v : Value} {l : List Spl} (h : SplIn W B v l) (hB : B ≤ B') : SplIn W B' v l := by
  obtain ⟨A, c, rfl, hA⟩ := h
  refine ⟨A, c, rfl, fun i x hx => ?_⟩
  obtain ⟨b, off, rfl, h0, h1⟩ := hA i x hx
  exact ⟨b, off, rfl, by omega, h1⟩

theorem SplIn.below {W W' : World} {B : Nat} {v : Value} {l : List Spl} (h : SplIn W B v l) (hb : Below B W W') : SplIn W' B v l := by
  obtain ⟨A, c, rfl, hA⟩ := h
  refine ⟨A, c, rfl, fun i x hx => ?_⟩
  obtain ⟨b, off, rfl, hB, h1, h2, h3⟩ := hA i x hx
  exact ⟨b, off, rfl, hB, (hb.cell (p := ⟨b, _, none⟩) hB).trans h1, (hb.cell (p := ⟨b, _, none⟩) hB).trans h2, (hb.cell (p := ⟨b, _, none⟩) hB).trans h3⟩

/-- Are splices right for a text of n bytes, behind a place? -/
def splRight (n : Nat) : Int → List Spl → Bool
  | _, [] => true
  | last, x :: r => if x.from_ < last ∨ x.to_ < x.from_ ∨ (n : Int) < x.to_ then false else splRight n x.to_ r

/-- Has a splice a byte that is none of a text? -/
def splBad : List Spl → Bool
  | [] => false
  | x :: r => if txt x.text < x.text.size then true else splBad r

/-- The first error that splices have before the text after them is looked at. -/
def splErr (s : ByteArray) (l : List Spl) : Int :=
  if 40 < l.length then 5 else if splRight s.size 0 l = false then 3 else if splBad l = true then 2 else 0

theorem splRight_step (n : Nat) (last : Int) (l : List Spl) (k : Nat) (x : Spl) (h : l[k]? = some x) :
    splRight n last (l.drop k) = if x.from_ < last ∨ x.to_ < x.from_ ∨ (n : Int) < x.to_ then false else splRight n x.to_ (l.drop (k + 1)) := by
  obtain ⟨hk, rfl⟩ := List.getElem?_eq_some_iff.1 h
  rw [List.drop_eq_getElem_cons hk, splRight]

theorem splBad_step (l : List Spl) (k : Nat) (x : Spl) (h : l[k]? = some x) : splBad (l.drop k) = if txt x.text < x.text.size then true else splBad (l.drop (k + 1)) := by
  obtain ⟨hk, rfl⟩ := List.getElem?_eq_some_iff.1 h
  rw [List.drop_eq_getElem_cons hk, splBad]
end Go.Proofs.YtjadjmkbjolklaaGreatDoor
namespace Go.Proofs.YtjadjmkbjolklaaGreatDoor
open Go Go.RowKit

structure Chg where
  from_ : Int
  to_ : Int
  text : ByteArray
  out : ByteArray
  at_ : Int

def Chg.cells5 (x : Chg) : List Value := [.int .i64 x.from_, .int .i64 x.to_, .string x.text, .string x.out, .int .i64 x.at_]
def chgCells (l : List Chg) : List Value := l.flatMap Chg.cells5
theorem chgCells_append (l l' : List Chg) : chgCells (l ++ l') = chgCells l ++ chgCells l' := by simp [chgCells]

/-- What splices do to a text, the text having grown by g before. -/
def chgs (s : ByteArray) : Int → List Spl → List Chg
  | _, [] => []
  | g, x :: r => ⟨x.from_, x.to_, x.text, s.extract x.from_.toNat x.to_.toNat, x.from_ + g⟩ :: chgs s (g + ((x.text.size : Int) - (s.extract x.from_.toNat x.to_.toNat).size)) r

/-- By how much the text has grown behind them. -/
def grown (s : ByteArray) : Int → List Spl → Int
  | g, [] => g
  | g, x :: r => grown s (g + ((x.text.size : Int) - (s.extract x.from_.toNat x.to_.toNat).size)) r

theorem chgs_length (s : ByteArray) : ∀ (g : Int) (l : List Spl), (chgs s g l).length = l.length
  | _, [] => rfl
  | g, x :: r => by rw [chgs, List.length_cons, List.length_cons, chgs_length s _ r]

theorem chgs_step (s : ByteArray) (g : Int) (l : List Spl) (k : Nat) (x : Spl) (h : l[k]? = some x) :
    chgs s g (l.drop k) = ⟨x.from_, x.to_, x.text, s.extract x.from_.toNat x.to_.toNat, x.from_ + g⟩ :: chgs s (g + ((x.text.size : Int) - (s.extract x.from_.toNat x.to_.toNat).size)) (l.drop (k + 1)) := by
  obtain ⟨hk, rfl⟩ := List.getElem?_eq_some_iff.1 h
  rw [List.drop_eq_getElem_cons hk, chgs]

theorem grown_step (s : ByteArray) (g : Int) (l : List Spl) (k : Nat) (x : Spl) (h : l[k]? = some x) :
    grown s g (l.drop k) = grown s (g + ((x.text.size : Int) - (s.extract x.from_.toNat x.to_.toNat).size)) (l.drop (k + 1)) := by
  obtain ⟨hk, rfl⟩ := List.getElem?_eq_some_iff.1 h
  rw [List.drop_eq_getElem_cons hk, grown]

/-- What lex.plan returns. -/
def planRes (s : ByteArray) (l : List Spl) : List Chg × Int := if 2500 < (s.size : Int) + grown s 0 l then ([], 5) else (chgs s 0 l, 0)

/-- Splices each of which lies within a text of n bytes. -/
def splIn (n : Nat) (l : List Spl) : Prop := ∀ x ∈ l, 0 ≤ x.from_ ∧ x.from_ ≤ x.to_ ∧ x.to_ ≤ n ∧ x.text.size ≤ 140737488355328

theorem splRight_in (n : Nat) : ∀ (l : List Spl) (last : Int), 0 ≤ last → splRight n last l = true → (∀ x ∈ l, x.text.size ≤ 140737488355328) → splIn n l
  | [], _, _, _, _ => fun x hx => by cases hx
  | y :: r, last, h0, h, ht => by
    rw [splRight] at h
    split at h
    · cases h
    · intro x hx
      cases hx with
      | head => exact ⟨by omega, by omega, by omega, ht _ (.head _)⟩
      | tail _ hx => exact splRight_in n r y.to_ (by omega) h (fun z hz => ht z (.tail _ hz)) x hx
end Go.Proofs.YtjadjmkbjolklaaGreatDoor
namespace Go.Proofs.YtjadjmkbjolklaaGreatDoor
open Go.RowKit

set_option maxRecDepth 100000 in
set_option maxHeartbeats 2000000 in
theorem spliceError_any (s : ByteArray) (v : Value) (l : List Spl) (w : World) (_ : s.size ≤ 140737488355328) (hl : l.length ≤ 140737488355328) (ht : ∀ x ∈ l, x.text.size ≤ 140737488355328) (hv : SplIn w w.heap.size v l) :
    Calls Tryz.prog 58 #[.string s, v] w fun e w' => e = .returned (.int .i64 (splErr s l)) ∧ Below w.heap.size w w' := by
  obtain ⟨A, c, rfl, hA⟩ := hv
  have HA := Lib.hid hA
  have HT := Lib.hid ht
  clear hA ht
  by_cases h40 : 40 < l.length
  · go_enter Tryz.func58, Tryz.ntmps58
    go_wp2
    go_ret
    exact ⟨ret_int (by unfold splErr; rw [if_pos h40]), Below.refl _ _⟩
  · go_enter Tryz.func58, Tryz.ntmps58
    go_wp2
    go_loopw [5, 15] (fun last i wr => ∃ (k : Nat) (la : Int), k ≤ l.length ∧ i = .int .i64 k ∧ last = .int .i64 la ∧ Hid (splRight s.size 0 l = splRight s.size la (l.drop k)) ∧ Below w.heap.size w wr) (fun _ i _ => l.length - (intOf i).toNat)
    case atStart => exact ⟨0, 0, by omega, rfl, rfl, Lib.hid rfl, Below.refl _ _⟩
    case round =>
      obtain ⟨k, la, hk, rfl, rfl, HR, hb⟩ := hrel
      by_cases hlt : k < l.length
      · obtain ⟨x, hx⟩ : ∃ x, l[k]? = some x := ⟨_, List.getElem?_eq_getElem hlt⟩
        obtain ⟨b, off, rfl, hB, h1, h2, h3⟩ := HA.out k x hx
        have HX := Lib.hid hx
        have d1 := (hb.cell (p := ⟨b, _, none⟩) hB).trans h1
        have d2 := (hb.cell (p := ⟨b, _, none⟩) hB).trans h2
        have d3 := (hb.cell (p := ⟨b, _, none⟩) hB).trans h3
        clear h1 h2 h3 hx
        have hsz := hb.size
        go_wp2
        all_goals first
          | (go_roundw
             case rel => exact ⟨k + 1, x.to_, by omega, by go_num, rfl, Lib.hid (by rw [HR.out, splRight_step _ _ _ _ _ HX.out, if_neg (by omega)]), hb.alloc hsz _⟩
             case measure => simp [intOf]; omega)
          | (go_ret
             exact ⟨ret_int (by unfold splErr; rw [if_neg h40, if_pos (by rw [HR.out, splRight_step _ _ _ _ _ HX.out, if_pos (by omega)])]), hb.alloc hsz _⟩)
      · have HR2 : Hid (splRight s.size 0 l = true) := Lib.hid (by rw [HR.out, List.drop_eq_nil_of_le (by omega)]; rfl)
        have hsz := hb.size
        clear HR
        go_wp2
        obtain ⟨wo, rfl⟩ : ∃ wo : World, wo = wr := ⟨_, rfl⟩
        go_loopw [42] (fun i wr => ∃ (k : Nat), k ≤ l.length ∧ i = .int .i64 k ∧ Hid (splBad l = splBad (l.drop k)) ∧ Below w.heap.size w wr) (fun i _ => l.length - (intOf i).toNat)
        case atStart => exact ⟨0, by omega, rfl, Lib.hid rfl, hb⟩
        case round =>
          obtain ⟨k, hk, rfl, HR, hb⟩ := hrel
          by_cases hlt : k < l.length
          · obtain ⟨x, hx⟩ : ∃ x, l[k]? = some x := ⟨_, List.getElem?_eq_getElem hlt⟩
            obtain ⟨b, off, rfl, hB, h1, h2, h3⟩ := HA.out k x hx
            have HX := Lib.hid hx
            have hxs := HT.out x (List.mem_of_getElem? hx)
            have d1 := (hb.cell (p := ⟨b, _, none⟩) hB).trans h1
            have d2 := (hb.cell (p := ⟨b, _, none⟩) hB).trans h2
            have d3 := (hb.cell (p := ⟨b, _, none⟩) hB).trans h3
            have hsz := hb.size
            have C83 := Lib.hid (fun w => firstAlien_any x.text w (le_max hxs))
            clear h1 h2 h3 hx
            go_wp2_with fail
            have e2 : (wr.alloc (.cells #[.int .i64 x.from_, .int .i64 x.to_, .string x.text] 40)).cell? ⟨wr.heap.size, 2, none⟩ = some (.string x.text) := by rw [World.cell?_alloc_at _ _ _ _ rfl]; rfl
            have hb1 := hb.alloc hsz (.cells #[.int .i64 x.from_, .int .i64 x.to_, .string x.text] 40)
            have hz1 : wr.heap.size < (wr.alloc (.cells #[.int .i64 x.from_, .int .i64 x.to_, .string x.text] 40)).heap.size := by simp
            generalize wr.alloc (.cells #[.int .i64 x.from_, .int .i64 x.to_, .string x.text] 40) = W1 at e2 hb1 hz1 ⊢
            generalize wr.heap.size = g at e2 hz1 ⊢
            clear d1 d2 d3
            have hsz1 := hb1.size
            go_region_with (go_at_call 43; refine (C83.out _).mono ?_; rintro e w2 ⟨rfl, hb2⟩; have e3 := (hb2.cell (p := ⟨g, 2, none⟩) hz1).trans e2)
            all_goals (
              have HB := Lib.hid (hb1.drew.trans (hb2.mono hsz1))
              clear C83 e2 e3 hb1 hb2)
            all_goals go_wp2
            all_goals first
              | (go_roundw
                 case rel => exact ⟨k + 1, by omega, by go_num, Lib.hid (by rw [HR.out, splBad_step _ _ _ HX.out, if_neg (by omega)]), HB.out⟩
                 case measure => simp [intOf]; omega)
              | (go_ret
                 exact ⟨ret_int (by unfold splErr; rw [if_neg h40, if_neg (by rw [HR2.out]; simp), if_pos (by rw [HR.out, splBad_step _ _ _ HX.out, if_pos (by omega)])]), HB.out⟩)
          · go_wp2
            go_ret
            exact ⟨ret_int (by unfold splErr; rw [if_neg h40, if_neg (by rw [HR2.out]; simp), HR.out, List.drop_eq_nil_of_le (by omega)]; rfl), hb⟩
end Go.Proofs.YtjadjmkbjolklaaGreatDoor
