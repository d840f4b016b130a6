/- The contracts of lex.firstAlien, textError, lineEnd, pieceEnd. -/
import Derived.Test.YtjadjmkbjolklaaDoorLexB
import Derived.Test.YtjadjmkbjolklaaDoorPure2
import Derived.RegionTactic
namespace Go.Proofs.YtjadjmkbjolklaaDoor
open Go.RowKit

theorem bcell {W w1 : World} (hb : Below W.heap.size W w1) : (∀ b o, b < W.heap.size → w1.cell? ⟨b, o, none⟩ = W.cell? ⟨b, o, none⟩) ∧ (∀ b o, b < W.heap.size → w1.frozen? ⟨b, o, none⟩ = W.frozen? ⟨b, o, none⟩) :=
  ⟨fun b o h => hb.cell (p := ⟨b, o, none⟩) h, fun b o h => hb.frozen (p := ⟨b, o, none⟩) h⟩

/-- A new block of numbers reads as they are. -/
theorem new_u8 (w : World) (t : TypeId) (zs : List Int) (j : Nat) (hj : j < zs.length) :
    (w.alloc (.cells (zs.map (Value.int .u8)).toArray t)).cell? ⟨w.heap.size, 0 + j, none⟩ = some (.int .u8 zs[j]!) := by
  rw [World.cell?_alloc_at _ _ _ _ rfl]
  simp [hj]

theorem past_new (s : ByteArray) (k : Int) (zs : List Int) (w : World) (hs : s.size ≤ maxLen) (hk : 0 ≤ k) (hk' : k ≤ s.size) (hbig : zs.length ≤ 9223372036854775807) :
    Calls Tryd.prog 85 #[.string s, .int .i64 k, .slice (some ⟨w.heap.size, 0, none⟩) zs.length zs.length] (w.alloc (.cells (zs.map (Value.int .u8)).toArray 111))
      fun e w' => e = .returned (.int .i64 (pastP (inCls zs) s k.toNat)) ∧ w.alloc (.cells (zs.map (Value.int .u8)).toArray 111) = w' := by
  obtain ⟨n, rfl⟩ := Int.eq_ofNat_of_zero_le hk
  have h := past_any s n w.heap.size 0 zs.length zs.length zs (w.alloc (.cells (zs.map (Value.int .u8)).toArray 111)) hs (by omega) (Nat.le_refl _) hbig (new_u8 w 111 zs)
  rw [List.take_length] at h
  exact h

def txt (s : ByteArray) : Nat := pastP (inCls [1, 2, 3, 4, 5, 6, 7]) s 0

theorem past7 (s : ByteArray) (w : World) (hs : s.size ≤ maxLen) :
    Calls Tryd.prog 85 #[.string s, .int .i64 0, .slice (some ⟨w.heap.size, 0, none⟩) 7 7] (w.alloc (.cells #[.int .u8 1, .int .u8 2, .int .u8 3, .int .u8 4, .int .u8 5, .int .u8 6, .int .u8 7] 111))
      fun e w' => e = .returned (.int .i64 (txt s)) ∧ w.alloc (.cells #[.int .u8 1, .int .u8 2, .int .u8 3, .int .u8 4, .int .u8 5, .int .u8 6, .int .u8 7] 111) = w' :=
  past_new s 0 [1, 2, 3, 4, 5, 6, 7] w hs (by omega) (by omega) (by simp)

theorem past3 (s : ByteArray) (k : Int) (w : World) (hs : s.size ≤ maxLen) (hk : 0 ≤ k) (hk' : k ≤ s.size) :
    Calls Tryd.prog 85 #[.string s, .int .i64 k, .slice (some ⟨w.heap.size, 0, none⟩) 3 3] (w.alloc (.cells #[.int .u8 2, .int .u8 3, .int .u8 4] 111))
      fun e w' => e = .returned (.int .i64 (pastP (inCls [2, 3, 4]) s k.toNat)) ∧ w.alloc (.cells #[.int .u8 2, .int .u8 3, .int .u8 4] 111) = w' :=
  past_new s k [2, 3, 4] w hs hk hk' (by simp)

theorem past1 (c : Int) (s : ByteArray) (k : Int) (w : World) (hs : s.size ≤ maxLen) (hk : 0 ≤ k) (hk' : k ≤ s.size) :
    Calls Tryd.prog 85 #[.string s, .int .i64 k, .slice (some ⟨w.heap.size, 0, none⟩) 1 1] (w.alloc (.cells #[.int .u8 c] 111))
      fun e w' => e = .returned (.int .i64 (pastP (inCls [c]) s k.toNat)) ∧ w.alloc (.cells #[.int .u8 c] 111) = w' :=
  past_new s k [c] w hs hk hk' (by simp)

theorem txt_le (s : ByteArray) : txt s ≤ s.size := pastP_le _ _ _ (by omega)

set_option maxHeartbeats 400000 in
theorem firstAlien_any (s : ByteArray) (w : World) (hs : s.size ≤ maxLen) :
    Calls Tryd.prog 83 #[.string s] w fun e w' => e = .returned (.int .i64 (txt s)) ∧ Below w.heap.size w w' := by
  go_enter Tryd.func83, Tryd.ntmps83
  go_wp2_with (go_at_call 85; refine (past7 s _ hs).mono ?_; rintro e w' ⟨rfl, rfl⟩)
  go_ret
  exact ⟨rfl, (Below.refl _ _).alloc (Nat.le_refl _) _⟩

/-- The error of a text, and where it is. -/
def textErr (s : ByteArray) : Int × Int := if 2500 < s.size then (0, 5) else if txt s < s.size then (txt s, 2) else (0, 0)

theorem ret_ii {k k' : IntKind} {a b c d : Int} (h : a = c) (h' : b = d) : Ending.returned (.tuple #[.int k a, .int k' b]) = .returned (.tuple #[.int k c, .int k' d]) := by rw [h, h']

set_option maxHeartbeats 400000 in
theorem textError_any (s : ByteArray) (w : World) (hs : s.size ≤ maxLen) :
    Calls Tryd.prog 48 #[.string s] w fun e w' => e = .returned (.tuple #[.int .i64 (textErr s).1, .int .i64 (textErr s).2]) ∧ Below w.heap.size w w' := by
  have hx := txt_le s
  go_enter Tryd.func48, Tryd.ntmps48
  go_wp2_with (go_at_call 83; refine (firstAlien_any s _ hs).mono ?_; rintro e w' ⟨rfl, hb⟩)
  all_goals go_ret2
  all_goals refine ⟨ret_ii (by unfold textErr; (repeat' split) <;> first | rfl | omega) (by unfold textErr; (repeat' split) <;> first | rfl | omega), ?_⟩
  all_goals first | exact Below.refl _ _ | assumption

theorem idx10 (s : ByteArray) (k : Int) (w : World) (hk : 0 ≤ k) (hk' : k ≤ s.size) :
    Calls Tryd.prog 94 #[.string (s.extract k.toNat s.size), .int .u8 10] w fun e w' => ∃ r : Int, e = .returned (.int .i64 r) ∧ w = w' ∧ -1 ≤ r ∧ r ≤ s.size - k ∧
      Hid ((r < 0 → lineEndP s k.toNat = s.size) ∧ (0 ≤ r → (lineEndP s k.toNat : Int) = k + r)) := by
  refine (Tryd.strings_IndexByte _ _ _).mono ?_
  rintro e w' ⟨rfl, rfl⟩
  have hx : (s.extract k.toNat s.size).data.toList = s.data.toList.drop k.toNat := by
    simp [List.take_of_length_le]
  rw [hx]
  have h := indexByte_span 10 (s.data.toList.drop k.toNat)
  have hl : (s.data.toList.drop k.toNat).length = s.size - k.toNat := by simp
  rw [hl] at h
  refine ⟨_, rfl, rfl, h.2.2.1, ?_, ?_⟩
  · have := h.2.2.2; change Lib.indexByte _ 10 ≤ _; omega
  · refine Lib.hid ⟨fun hr => ?_, fun hr => ?_⟩
    · have h1 := h.1 hr
      unfold lineEndP pastP spanAt
      omega
    · have h1 := h.2.1 hr
      unfold lineEndP pastP spanAt
      change _ = k + Lib.indexByte _ 10
      omega

set_option maxHeartbeats 400000 in
theorem lineEnd_any (s : ByteArray) (k : Int) (w : World) (hs : s.size ≤ maxLen) (hk : 0 ≤ k) (hk' : k ≤ s.size) :
    Calls Tryd.prog 57 #[.string s, .int .i64 k] w fun e w' => e = .returned (.int .i64 (lineEndP s k.toNat)) ∧ w = w' := by
  unfold maxLen at hs
  go_enter Tryd.func57, Tryd.ntmps57
  go_wp2_with (go_at_call 94; refine (idx10 s k _ hk hk').mono ?_; rintro e w' ⟨r, rfl, rfl, hr1, hr2, HR⟩)
  all_goals go_ret
  · exact ⟨ret_int (HR.out.2 (by assumption)).symm, rfl⟩
  · exact ⟨ret_int (by rw [HR.out.1 (by assumption)]), rfl⟩
end Go.Proofs.YtjadjmkbjolklaaDoor
