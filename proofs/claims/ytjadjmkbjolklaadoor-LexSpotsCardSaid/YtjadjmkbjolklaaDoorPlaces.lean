/- The statement LexPlaces: the call. -/
import Derived.Test.YtjadjmkbjolklaaDoorLexS
import Derived.Test.YtjadjmkbjolklaaDoorAwakeB
namespace Go.Proofs.YtjadjmkbjolklaaDoor
open Go.RowKit

theorem spotRes_in {s : ByteArray} {k : Nat} (ht : (textErr s).2 = 0) (hk : k ≤ s.size) : spotRes s k = (((lineP s k : Int), (colP s k : Int)), 0) := by
  unfold spotRes
  rw [if_neg (by rw [ht]; simp), if_neg (by omega)]
  rfl

theorem at_spot {s : ByteArray} {k : Nat} {r x : Int} (ht : (textErr s).2 = 0) (hk : k ≤ s.size) (h : AtSpec s (lineP s k) (colP s k) r x) : r = k ∧ x = 0 :=
  h.one (.inr (.inl ⟨ht, rfl, k, hk, rfl, rfl, rfl⟩))

theorem Box2.alloc {W : World} {B : Nat} {x y : Int} (h : Box2 W B x y) (o : Obj) : Box2 (W.alloc o) B x y := h.below ((Below.refl _ _).alloc (Nat.le_refl _) o) h.lt

set_option maxRecDepth 100000 in
set_option maxHeartbeats 2000000 in
theorem places_any (s : ByteArray) (w : World) (hs : s.size ≤ 140737488355328) (hv : NumVars w) :
    Calls Tryd.prog 12 #[.string s] w fun e w' => e = .returned (.bool true) ∧ Below w.heap.size w w' := by
  have HV := Lib.hid hv
  clear hv
  by_cases h3 : 300 < s.size
  · go_enter Tryd.func12, Tryd.ntmps12
    go_wp2_with (go_at_call 17; refine (awake_any _ HV.out).mono ?_; rintro e w1 ⟨rfl, hb1⟩)
    go_ret
    exact ⟨rfl, hb1⟩
  · by_cases he : (textErr s).2 = 0
    · have HE := Lib.hid he
      have heb : ((textErr s).2 != 0) = false := by simpa using he
      clear he
      go_enter Tryd.func12, Tryd.ntmps12
      go_wp2_with (go_at_call 20; refine (notes_any s _ hs HV.out).mono ?_; rintro e w1 ⟨v1, rfl, hb1, htok⟩; clear htok)
      have hnew := Box2.new w1 0 0
      have hbw := hb1.alloc hb1.size (.cells #[.int .i64 0, .int .i64 0] 32)
      have hz : (w1.alloc (.cells #[.int .i64 0, .int .i64 0] 32)).heap.size = w1.heap.size + 1 := by simp
      have hge := hb1.size
      generalize w1.alloc (.cells #[.int .i64 0, .int .i64 0] 32) = W1 at hnew hbw hz ⊢
      clear hb1
      go_loopw [6] (fun i wr => ∃ (k : Nat) (a b : Int), k ≤ s.size + 1 ∧ i = .int .i64 k ∧ Box2 wr w1.heap.size a b ∧ Hid (k ≤ s.size → a < lineP s k ∨ (a = lineP s k ∧ b < colP s k)) ∧ Below w.heap.size w wr) (fun i _ => s.size + 1 - (intOf i).toNat)
      case atStart => exact ⟨0, 0, 0, by omega, rfl, hnew, Lib.hid (fun _ => .inl (by show (0 : Int) < (1 : Nat); omega)), hbw⟩
      case round =>
        obtain ⟨k, a, b, hk, rfl, hbx, HL, hb⟩ := hrel
        by_cases hle : k ≤ s.size
        · have hlast := HL.out hle
          have q1 := lineP_le s k
          have q2 := colP_le s k
          have hsr := spotRes_in HE.out hle
          have C23 := Lib.hid (fun w => spot_any s k w hs)
          rw [hsr] at C23
          have hlt := hbx.lt
          have C25 := Lib.hid (fun w => at_any s (lineP s k) (colP s k) w hs (by omega) (by omega))
          clear hsr
          rcases hlast with hla | ⟨rfl, hlb⟩
          · have hlab : ((lineP s k : Int) == a) = false := by simp; omega
            go_wp2_with (first
              | (go_at_call 23; refine (C23.out _).mono ?_; rintro e w2 ⟨rfl, hb2⟩; have hx2 := hbx.below hb2 hlt; have hB2 := hb.trans (hb2.mono hb.size); clear C23)
              | (go_at_call 25; refine (C25.out _).mono ?_; rintro e w3 ⟨r, x, rfl, hsp, hb3⟩; obtain ⟨rfl, rfl⟩ := at_spot HE.out hle hsp; have hn := (Box2.new w2 _ _).below hb3 (by simp); have hx3 := (hx2.alloc _).below hb3 (by have := hx2.lt; simp; omega); have c0 := hn.c0; have c1 := hn.c1; have d0 := hx3.c0; have d1 := hx3.c1; have d1' := hx3.c1'; have f0 := hx3.f0; have hB3 := (hB2.alloc hB2.size _).trans (hb3.mono (by have := hB2.size; simp; omega)); clear C25))
            refine ⟨⟨k + 1, _, _, by omega, by go_num, hx3.set _ _, Lib.hid (fun _ => by have h := spot_step s k; omega), (hB3.setCell (p := ⟨w1.heap.size, 0, none⟩) hge _).setCell (p := ⟨w1.heap.size, 1, none⟩) hge _⟩, by simp [intOf]; omega⟩
          · go_wp2_with (first
              | (go_at_call 23; refine (C23.out _).mono ?_; rintro e w2 ⟨rfl, hb2⟩; have hx2 := hbx.below hb2 hlt; have hB2 := hb.trans (hb2.mono hb.size); clear C23)
              | (go_at_call 25; refine (C25.out _).mono ?_; rintro e w3 ⟨r, x, rfl, hsp, hb3⟩; obtain ⟨rfl, rfl⟩ := at_spot HE.out hle hsp; have hn := (Box2.new w2 _ _).below hb3 (by simp); have hx3 := (hx2.alloc _).below hb3 (by have := hx2.lt; simp; omega); have c0 := hn.c0; have c1 := hn.c1; have d0 := hx3.c0; have d1 := hx3.c1; have d1' := hx3.c1'; have f0 := hx3.f0; have hB3 := (hB2.alloc hB2.size _).trans (hb3.mono (by have := hB2.size; simp; omega)); clear C25))
            refine ⟨⟨k + 1, _, _, by omega, by go_num, hx3.set _ _, Lib.hid (fun _ => by have h := spot_step s k; omega), (hB3.setCell (p := ⟨w1.heap.size, 0, none⟩) hge _).setCell (p := ⟨w1.heap.size, 1, none⟩) hge _⟩, by simp [intOf]; omega⟩
        · go_wp2_with (go_at_call 17; refine (awake_any _ (HV.out.keep hb)).mono ?_; rintro e w2 ⟨rfl, hb2⟩)
          go_ret
          exact ⟨rfl, hb.trans (hb2.mono hb.size)⟩
    · have HE := Lib.hid he
      have heb : ((textErr s).2 != 0) = true := by simpa using he
      clear he
      go_enter Tryd.func12, Tryd.ntmps12
      go_wp2_with (first
        | (go_at_call 20; refine (notes_any s _ hs HV.out).mono ?_; rintro e w1 ⟨v1, rfl, hb1, htok⟩; clear htok)
        | (go_at_call 17; refine (awake_any _ (HV.out.keep hb1)).mono ?_; rintro e w2 ⟨rfl, hb2⟩))
      go_ret
      exact ⟨rfl, hb1.trans (hb2.mono hb1.size)⟩
end Go.Proofs.YtjadjmkbjolklaaDoor
