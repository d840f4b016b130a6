/- The statement LexSpots: the call. -/
import Derived.Test.YtjadjmkbjolklaaDoorRefD
import Derived.Test.YtjadjmkbjolklaaDoorPlaces
namespace Go.Proofs.YtjadjmkbjolklaaDoor
open Go.RowKit

theorem neq32_same (w : World) (a b : Int) : (binOp .neq 32 (.agg #[.int .i64 a, .int .i64 b]) (.agg #[.int .i64 a, .int .i64 b])).run Tryd.prog w = .ok (.bool false) w := by
  rw [neq32, decide_eq_true rfl]
  rfl

set_option maxRecDepth 100000 in
set_option maxHeartbeats 2000000 in
theorem spots_any (s : ByteArray) (k line col : Int) (w : World) (hs : s.size ≤ 140737488355328) (hl : line ≤ 9223372036854775807) (hc : col ≤ 9223372036854775807) (hv : NumVars w) :
    Calls Tryd.prog 4 #[.string s, .int .i64 k, .agg #[.int .i64 line, .int .i64 col]] w fun e w' => e = .returned (.bool true) ∧ Below w.heap.size w w' := by
  have HV := Lib.hid (hv.alloc (.cells #[.int .i64 line, .int .i64 col] 32))
  clear hv
  have hnew := Box2.new w line col
  have hbw := (Below.refl w.heap.size w).alloc (Nat.le_refl _) (.cells #[.int .i64 line, .int .i64 col] 32)
  have hz : (w.alloc (.cells #[.int .i64 line, .int .i64 col] 32)).heap.size = w.heap.size + 1 := by simp
  by_cases h6 : 600 < s.size
  · by_cases h24 : s.size ≤ 2490
    · go_enter Tryd.func4, Tryd.ntmps4
      go_wp2_with (go_at_call 17; refine (awake_any _ HV.out).mono ?_; rintro e w1 ⟨rfl, hb1⟩)
      go_ret
      exact ⟨rfl, hbw.trans (hb1.mono (by omega))⟩
    · by_cases h30 : 3000 < s.size
      · go_enter Tryd.func4, Tryd.ntmps4
        go_wp2_with (go_at_call 17; refine (awake_any _ HV.out).mono ?_; rintro e w1 ⟨rfl, hb1⟩)
        go_ret
        exact ⟨rfl, hbw.trans (hb1.mono (by omega))⟩
      · have C23 := Lib.hid (fun w => spot_any s k w hs)
        have C24 := Lib.hid (fun w => refSpot_any s k w hs)
        generalize (spotRes s k).1.1 = sl at C23 C24
        generalize (spotRes s k).1.2 = sc at C23 C24
        generalize (spotRes s k).2 = se at C23 C24
        have hn := fun w => neq32_same w sl sc
        have hgu := guard32
        go_enter Tryd.func4, Tryd.ntmps4
        go_wp2_with (first
          | (go_at_call 23; refine (C23.out _).mono ?_; rintro e w1 ⟨rfl, hb1⟩; have hx1 := hnew.below hb1 (by omega); have hB1 := hbw.trans (hb1.mono (by omega)); have HV1 := Lib.hid (HV.out.keep hb1); have h7 := Box2.new w1 sl sc; clear hb1 C23)
          | (go_at_call 24; refine (C24.out _).mono ?_; rintro e w2 ⟨rfl, hb2⟩; have h7b := h7.below hb2 h7.lt; have h9 := Box2.new w2 sl sc; have h7c := h7b.alloc (.cells #[.int .i64 sl, .int .i64 sc] 32); have a0 := h9.c0; have a1 := h9.c1; have b0 := h7c.c0; have b1 := h7c.c1; have hB2 := (hB1.alloc hB1.size (.cells #[.int .i64 sl, .int .i64 sc] 32)).trans (hb2.mono (by have := hB1.size; simp; omega)); have HV2 := Lib.hid (((HV1.out.alloc (.cells #[.int .i64 sl, .int .i64 sc] 32)).keep hb2).alloc (.cells #[.int .i64 sl, .int .i64 sc] 32)); clear hb2 C24)
          | (go_at_call 17; refine (awake_any _ HV2.out).mono ?_; rintro e w3 ⟨rfl, hb3⟩))
        have hB3 := hB2.alloc hB2.size (.cells #[.int .i64 sl, .int .i64 sc] 32)
        go_ret
        exact ⟨rfl, hB3.trans (hb3.mono hB3.size)⟩
  · have C23 := Lib.hid (fun w => spot_any s k w hs)
    have C24 := Lib.hid (fun w => refSpot_any s k w hs)
    generalize (spotRes s k).1.1 = sl at C23 C24
    generalize (spotRes s k).1.2 = sc at C23 C24
    generalize (spotRes s k).2 = se at C23 C24
    have C25 := Lib.hid (fun w => at_any s line col w hs hl hc)
    have C26 := Lib.hid (fun w => refAt_any s line col w hs)
    have hn := fun w => neq32_same w sl sc
    have hgu := guard32
    go_enter Tryd.func4, Tryd.ntmps4
    go_wp2_with (first
      | (go_at_call 23; refine (C23.out _).mono ?_; rintro e w1 ⟨rfl, hb1⟩; have hx1 := hnew.below hb1 (by omega); have hB1 := hbw.trans (hb1.mono (by omega)); have HV1 := Lib.hid (HV.out.keep hb1); have h7 := Box2.new w1 sl sc; clear hb1 C23)
      | (go_at_call 24; refine (C24.out _).mono ?_; rintro e w2 ⟨rfl, hb2⟩; have h7b := h7.below hb2 h7.lt; have h9 := Box2.new w2 sl sc; have h7c := h7b.alloc (.cells #[.int .i64 sl, .int .i64 sc] 32); have a0 := h9.c0; have a1 := h9.c1; have b0 := h7c.c0; have b1 := h7c.c1; have hB2 := (hB1.alloc hB1.size (.cells #[.int .i64 sl, .int .i64 sc] 32)).trans (hb2.mono (by have := hB1.size; simp; omega)); have HV2 := Lib.hid (((HV1.out.alloc (.cells #[.int .i64 sl, .int .i64 sc] 32)).keep hb2).alloc (.cells #[.int .i64 sl, .int .i64 sc] 32)); have hx2 := ((hx1.alloc (.cells #[.int .i64 sl, .int .i64 sc] 32)).below hb2 (by have := hx1.lt; simp; omega)).alloc (.cells #[.int .i64 sl, .int .i64 sc] 32); have x0 := hx2.c0; have x1 := hx2.c1; have hB3 := hB2.alloc hB2.size (.cells #[.int .i64 sl, .int .i64 sc] 32); clear hb2 C24)
      | (go_at_call 25; refine (C25.out _).mono ?_; rintro e w3 ⟨r, x, rfl, hsp, hb3⟩; have hx3 := hx2.below hb3 hx2.lt; have y0 := hx3.c0; have y1 := hx3.c1; have hB4 := hB3.trans (hb3.mono hB3.size); have HV3 := Lib.hid (HV2.out.keep hb3); have HS := Lib.hid hsp; clear hb3 C25 hsp)
      | (go_at_call 26; refine (C26.out _).mono ?_; rintro e w4 ⟨r', x', rfl, hsp, hb4⟩; obtain ⟨rfl, rfl⟩ := HS.out.one hsp; have hB5 := hB4.trans (hb4.mono hB4.size); have HV4 := Lib.hid (HV3.out.keep hb4); clear hb4 C26 hsp)
      | (go_at_call 17; refine (awake_any _ HV4.out).mono ?_; rintro e w5 ⟨rfl, hb5⟩))
    go_ret
    exact ⟨rfl, hB5.trans (hb5.mono hB5.size)⟩
end Go.Proofs.YtjadjmkbjolklaaDoor
