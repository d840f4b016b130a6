/- The contracts of the reference's numberError, Token. -/
import Derived.Test.YtjadjmkbjolklaaDoorTokD
namespace Go.Proofs.YtjadjmkbjolklaaDoor
open Go.RowKit

theorem dg_eq (c : UInt8) : dgB (c.toNat : Int) = isDig c := by
  unfold dgB isDig
  rw [Bool.eq_iff_iff]
  simp only [Bool.and_eq_true, decide_eq_true_eq]
  omega

theorem idxb (s : ByteArray) (k : Nat) (h : k < s.size) (w : World) : (Instr.index 9 (.string s) (.int .i64 k)).run Tryd.prog w = .ok (.int .u8 (s[k]!).toNat) w := by
  rw [getBang s k h]
  simp [Instr.index, go_sem, h]

theorem idx00 (s : ByteArray) (h : 0 < s.size) (w : World) : (Instr.index 9 (.string s) (.int .i64 0)).run Tryd.prog w = .ok (.int .u8 (s[0]!).toNat) w := by
  have := idxb s 0 h w
  simpa using this

theorem numS {a b : Int} (h : a = b) : Value.int .i64 a = .int .i64 b := by rw [h]

set_option maxRecDepth 100000 in
set_option maxHeartbeats 300000 in
theorem refNumberError_any (s : ByteArray) (w : World) (hs : s.size ≤ 140737488355328) (h0 : 0 < s.size) :
    Calls Tryd.prog 112 #[.string s] w fun e w' => e = .returned (.int .i64 (numErr s)) ∧ w = w' := by
  obtain ⟨m, hm⟩ : ∃ m : Nat, m = 1000001 := ⟨_, rfl⟩
  have HM := Lib.hid hm
  clear hm
  go_enter Tryd.func112, Tryd.ntmps112
  go_wp2
  go_loop [3, 4] (fun n i => ∃ j c : Nat, j ≤ s.size ∧ i = .int .i64 j ∧ n = .int .i64 c ∧ c ≤ 1000001 ∧ Hid (capD m 0 s.data.toList = capD m c (s.data.toList.drop j)) ∧ Hid (∀ q (h : q < s.size), q < j → isDig s[q] = true) ∧ Hid (1 < j → (s[0]!).toNat ≠ 48)) (fun _ i => s.size - (intOf i).toNat)
  case atStart => exact ⟨0, 0, by omega, rfl, rfl, by omega, Lib.hid rfl, Lib.hid (fun q h h1 => by omega), Lib.hid (by omega)⟩
  case round =>
    obtain ⟨j, c, hj, rfl, rfl, hc, HC, HD, HZ⟩ := hrel
    by_cases hlt : j < s.size
    · have hi := idxb s j hlt
      have hi0 := idx00 s h0
      have HGJ := Lib.hid (getBang s j hlt)
      have HG0 := Lib.hid (getBang s 0 h0)
      have hlg : s.data.toList[j]? = some s[j] := by
        rw [List.getElem?_eq_getElem (by simpa using hlt)]
        rfl
      have HLG := Lib.hid hlg
      clear hlg
      by_cases hd : isDig s[j] = true
      · have C := Lib.hid (show ∀ w, Calls Tryd.prog 111 #[.int .u8 (s[j]!).toNat] w fun e w' => e = .returned (.bool true) ∧ w = w' from fun w => by
          have h := isDigit_any (s[j]!).toNat w
          rw [HGJ.out, dg_eq, hd] at h
          rw [HGJ.out]
          exact h)
        have hq : 48 ≤ (s[j]!).toNat ∧ (s[j]!).toNat ≤ 57 := by
          rw [HGJ.out]
          unfold isDig at hd
          simp only [Bool.and_eq_true, decide_eq_true_eq] at hd
          exact hd
        obtain ⟨hq1, hq2⟩ := hq
        have HNX := Lib.hid (show capD m 0 s.data.toList = capD m (min (10 * c + ((s[j]!).toNat - 48)) 1000001) (s.data.toList.drop (j + 1)) by rw [HC.out, capD_step m _ c j _ HLG.out, HGJ.out, HM.out])
        have HDX := Lib.hid (show ∀ q (h : q < s.size), q < j + 1 → isDig s[q] = true from fun q h h1 => by
          by_cases e : q = j
          · subst e; exact hd
          · exact HD.out q h (by omega))
        clear hd
        by_cases hj0 : 0 < j
        · by_cases hz : (s[0]!).toNat = 48
          · have HR := Lib.hid (numErr_zero s (by omega) (by rw [← HG0.out]; exact hz))
            have hzb : (((s[0]!).toNat : Int) == 48) = true := by simp [hz]
            clear hz HNX
            generalize (s[0]!).toNat = b0 at hi0 hzb
            generalize (s[j]!).toNat = bj at hi C hq1 hq2
            go_wp2_with (go_at_call 111; refine (C.out _).mono ?_; rintro e w' ⟨rfl, rfl⟩)
            go_ret
            rw [HR.out]
            exact ⟨rfl, rfl⟩
          · have hzb : (((s[0]!).toNat : Int) == 48) = false := by simp; omega
            have HZX := Lib.hid (show 1 < j + 1 → (s[0]!).toNat ≠ 48 from fun _ => hz)
            clear hz
            generalize (s[0]!).toNat = b0 at hi0 hzb HZX
            generalize (s[j]!).toNat = bj at hi C hq1 hq2 HNX
            go_wp2_with (go_at_call 111; refine (C.out _).mono ?_; rintro e w' ⟨rfl, rfl⟩)
            go_round
            case rel => exact ⟨j + 1, min (10 * c + (bj - 48)) 1000001, by omega, by go_num, numS (by omega), by omega, HNX, HDX, HZX⟩
            case measure => simp [intOf]; omega
        · have HZX := Lib.hid (show 1 < j + 1 → (s[0]!).toNat ≠ 48 from fun h => by omega)
          clear hi0
          generalize (s[j]!).toNat = bj at hi C hq1 hq2 HNX
          go_wp2_with (go_at_call 111; refine (C.out _).mono ?_; rintro e w' ⟨rfl, rfl⟩)
          go_round
          case rel => exact ⟨j + 1, min (10 * c + (bj - 48)) 1000001, by omega, by go_num, numS (by omega), by omega, HNX, HDX, HZX⟩
          case measure => simp [intOf]; omega
      · have hd' : isDig s[j] = false := by simpa using hd
        have C := Lib.hid (show ∀ w, Calls Tryd.prog 111 #[.int .u8 (s[j]!).toNat] w fun e w' => e = .returned (.bool false) ∧ w = w' from fun w => by
          have h := isDigit_any (s[j]!).toNat w
          rw [HGJ.out, dg_eq, hd'] at h
          rw [HGJ.out]
          exact h)
        have HR := Lib.hid (numErr_bad s j hlt hd')
        clear hd hd' hi0
        generalize (s[j]!).toNat = bj at hi C
        go_wp2_with (go_at_call 111; refine (C.out _).mono ?_; rintro e w' ⟨rfl, rfl⟩)
        go_ret
        rw [HR.out]
        exact ⟨rfl, rfl⟩
    · have hjs : j = s.size := by omega
      have HR := Lib.hid (show numErr s = if c ≤ 1000000 then 0 else 3 by
        have h := HC.out
        rw [List.drop_eq_nil_of_le (by simp; omega), capD_nil] at h
        rw [numErr_end m HM.out s h0 (fun q hq => HD.out q hq (by omega)) (fun h1 => by rw [← getBang s 0 h0]; exact HZ.out (by omega)), h])
      clear hjs
      by_cases hc6 : 1000000 < c
      · go_wp2
        go_ret
        rw [HR.out, if_neg (by omega)]
        exact ⟨rfl, rfl⟩
      · go_wp2
        go_ret
        rw [HR.out, if_pos (by omega)]
        exact ⟨rfl, rfl⟩

end Go.Proofs.YtjadjmkbjolklaaDoor
