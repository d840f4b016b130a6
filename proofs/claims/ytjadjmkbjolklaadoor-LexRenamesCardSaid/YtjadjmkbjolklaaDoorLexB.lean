/- The contracts of lex.past and what calls it alone. -/
import Derived.Test.YtjadjmkbjolklaaDoorLexA
namespace Go.Proofs.YtjadjmkbjolklaaDoor
open Go.RowKit

/-- Is a byte of one of some classes? -/
def inCls (zs : List Int) (c : UInt8) : Bool := zs.any fun y => cls c.toNat == y

set_option maxHeartbeats 400000 in
theorem past_any (s : ByteArray) (k : Nat) (b off n c : Nat) (zs : List Int) (w : World) (hs : s.size ≤ maxLen) (hk' : k ≤ s.size)
    (hn : n ≤ zs.length) (hbig : n ≤ 9223372036854775807) (hc : ∀ j, j < zs.length → w.cell? ⟨b, off + j, none⟩ = some (.int .u8 zs[j]!)) :
    Calls Tryd.prog 85 #[.string s, .int .i64 k, .slice (some ⟨b, off, none⟩) n c] w fun e w' => e = .returned (.int .i64 (pastP (inCls (zs.take n)) s k)) ∧ w = w' := by
  unfold maxLen at hs
  have HC := Lib.hid hc
  clear hc
  go_enter Tryd.func85, Tryd.ntmps85
  go_wp2_with fail
  go_loop [12] (fun i => ∃ j : Nat, k + j ≤ s.size ∧ i = .int .i64 j ∧ Hid (pastP (inCls (zs.take n)) s k = pastP (inCls (zs.take n)) s (k + j))) (fun i => s.size - (intOf i).toNat)
  case atStart => exact ⟨0, by omega, rfl, Lib.hid rfl⟩
  case round =>
    obtain ⟨j, hj, rfl, he⟩ := hrel
    by_cases hlt : k + j < s.size
    · have hbyte : s[k + j].toNat < 256 := UInt8.toNat_lt _
      by_cases hin : inCls (zs.take n) s[k + j] = true
      · have hin' : Hid _ := hin
        have hany : ((zs.take n).any fun y => cls s[k + j].toNat == y) = true := hin
        clear hin
        go_wp2_with (first
          | (go_at_call 104; refine (classOf_any _ _ (by omega) (by omega)).mono ?_; rintro e w' ⟨rfl, rfl⟩)
          | (go_at_call 103; refine (Tryd.slices_Contains_class b off n c zs _ _ hn hbig HC.out).mono ?_; rintro e w' ⟨rfl, rfl⟩))
        go_round
        case rel => exact ⟨j + 1, by omega, by go_num, Lib.hid (by rw [he.out, pastP_yes _ _ _ hlt hin'.out]; rfl)⟩
        case measure => simp [intOf]; omega
      · have hin' : Hid _ := (Bool.not_eq_true _).mp hin
        have hany : ((zs.take n).any fun y => cls s[k + j].toNat == y) = false := (Bool.not_eq_true _).mp hin
        clear hin
        go_wp2_with (first
          | (go_at_call 104; refine (classOf_any _ _ (by omega) (by omega)).mono ?_; rintro e w' ⟨rfl, rfl⟩)
          | (go_at_call 103; refine (Tryd.slices_Contains_class b off n c zs _ _ hn hbig HC.out).mono ?_; rintro e w' ⟨rfl, rfl⟩))
        go_ret
        refine ⟨ret_int ?_, rfl⟩
        rw [he.out, pastP_no _ _ _ hlt hin'.out]
        omega
    · go_wp2_with fail
      go_ret
      refine ⟨ret_int ?_, rfl⟩
      rw [he.out, pastP_end _ _ _ (by omega)]
      omega
end Go.Proofs.YtjadjmkbjolklaaDoor
