/- The contracts of the reference's IsSmall, IsDigit, isLetter, run, note, has, BeginsAt. -/
import Derived.Test.YtjadjmkbjolklaaDoorTokP
import Derived.Test.YtjadjmkbjolklaaDoorLow
namespace Go.Proofs.YtjadjmkbjolklaaDoor
open Go.RowKit

def smB (c : Int) : Bool := decide (97 ≤ c) && decide (c ≤ 122)
def dgB (c : Int) : Bool := decide (48 ≤ c) && decide (c ≤ 57)
def ltB (c : Int) : Bool := smB c || (decide (65 ≤ c) && decide (c ≤ 90))

theorem isSmall_any (c : Int) (w : World) : Calls Tryd.prog 108 #[.int .u8 c] w fun e w' => e = .returned (.bool (smB c)) ∧ w = w' := by
  by_cases h1 : 97 ≤ c
  · have HR : Hid (smB c = decide (c ≤ 122)) := Lib.hid (by unfold smB; simp [h1])
    go_enter Tryd.func108, Tryd.ntmps108
    go_wp2
    go_ret
    rw [HR.out]
    exact ⟨rfl, rfl⟩
  · have HR : Hid (smB c = false) := Lib.hid (by unfold smB; simp [h1])
    go_enter Tryd.func108, Tryd.ntmps108
    go_wp2
    go_ret
    rw [HR.out]
    exact ⟨rfl, rfl⟩

theorem isDigit_any (c : Int) (w : World) : Calls Tryd.prog 111 #[.int .u8 c] w fun e w' => e = .returned (.bool (dgB c)) ∧ w = w' := by
  by_cases h1 : 48 ≤ c
  · have HR : Hid (dgB c = decide (c ≤ 57)) := Lib.hid (by unfold dgB; simp [h1])
    go_enter Tryd.func111, Tryd.ntmps111
    go_wp2
    go_ret
    rw [HR.out]
    exact ⟨rfl, rfl⟩
  · have HR : Hid (dgB c = false) := Lib.hid (by unfold dgB; simp [h1])
    go_enter Tryd.func111, Tryd.ntmps111
    go_wp2
    go_ret
    rw [HR.out]
    exact ⟨rfl, rfl⟩

theorem isLetter_any (c : Int) (w : World) : Calls Tryd.prog 124 #[.int .u8 c] w fun e w' => e = .returned (.bool (ltB c)) ∧ w = w' := by
  by_cases h0 : smB c = true
  · have HR : Hid (ltB c = true) := Lib.hid (by unfold ltB; rw [h0]; rfl)
    have C : Hid (∀ w, Calls Tryd.prog 108 #[.int .u8 c] w fun e w' => e = .returned (.bool true) ∧ w = w') := Lib.hid (fun w => h0 ▸ isSmall_any c w)
    clear h0
    go_enter Tryd.func124, Tryd.ntmps124
    go_wp2_with (go_at_call 108; refine (C.out _).mono ?_; rintro e w' ⟨rfl, rfl⟩)
    go_ret
    rw [HR.out]
    exact ⟨rfl, rfl⟩
  · have h0' : smB c = false := by simpa using h0
    have C : Hid (∀ w, Calls Tryd.prog 108 #[.int .u8 c] w fun e w' => e = .returned (.bool false) ∧ w = w') := Lib.hid (fun w => h0' ▸ isSmall_any c w)
    by_cases h1 : 65 ≤ c
    · have HR : Hid (ltB c = decide (c ≤ 90)) := Lib.hid (by unfold ltB; rw [h0']; simp [h1])
      clear h0 h0'
      go_enter Tryd.func124, Tryd.ntmps124
      go_wp2_with (go_at_call 108; refine (C.out _).mono ?_; rintro e w' ⟨rfl, rfl⟩)
      go_ret
      rw [HR.out]
      exact ⟨rfl, rfl⟩
    · have HR : Hid (ltB c = false) := Lib.hid (by unfold ltB; rw [h0']; simp [h1])
      clear h0 h0'
      go_enter Tryd.func124, Tryd.ntmps124
      go_wp2_with (go_at_call 108; refine (C.out _).mono ?_; rintro e w' ⟨rfl, rfl⟩)
      go_ret
      rw [HR.out]
      exact ⟨rfl, rfl⟩

theorem inCls234 (c : UInt8) : inCls [2, 3, 4] c = (ltB c.toNat || dgB c.toNat) := by
  have hc : c.toNat < 256 := UInt8.toNat_lt c
  unfold inCls ltB smB dgB
  rw [Bool.eq_iff_iff]
  simp only [List.any_cons, List.any_nil, Bool.or_false, Bool.or_eq_true, beq_iff_eq, Bool.and_eq_true, decide_eq_true_eq]
  unfold cls
  repeat' split
  all_goals omega

theorem cls2 (c : UInt8) : cls c.toNat = 2 ↔ smB c.toNat = true := by
  have hc : c.toNat < 256 := UInt8.toNat_lt c
  unfold smB
  simp only [Bool.and_eq_true, decide_eq_true_eq]
  unfold cls
  repeat' split
  all_goals omega

theorem cls4 (c : UInt8) : cls c.toNat = 4 ↔ dgB c.toNat = true := by
  have hc : c.toNat < 256 := UInt8.toNat_lt c
  unfold dgB
  simp only [Bool.and_eq_true, decide_eq_true_eq]
  unfold cls
  repeat' split
  all_goals omega

theorem ret_str {a b : ByteArray} (h : a = b) : Ending.returned (.string a) = .returned (.string b) := by rw [h]

set_option maxHeartbeats 400000 in
theorem run_any (s : ByteArray) (k : Nat) (w : World) (hs : s.size ≤ 140737488355328) (hk : k ≤ s.size) :
    Calls Tryd.prog 107 #[.string s, .int .i64 k] w fun e w' => e = .returned (.string (runP s k)) ∧ w = w' := by
  go_enter Tryd.func107, Tryd.ntmps107
  go_wp2
  go_loop [5] (fun i => ∃ j : Nat, k ≤ j ∧ j ≤ s.size ∧ i = .int .i64 j ∧ Hid (pastP (inCls [2, 3, 4]) s k = pastP (inCls [2, 3, 4]) s j)) (fun i => s.size - (intOf i).toNat)
  case atStart => exact ⟨k, by omega, by omega, rfl, Lib.hid rfl⟩
  case round =>
    obtain ⟨j, hkj, hj, rfl, HP⟩ := hrel
    by_cases hlt : j < s.size
    · by_cases h1 : ltB s[j].toNat = true
      · have C : Hid (∀ w, Calls Tryd.prog 124 #[.int .u8 s[j].toNat] w fun e w' => e = .returned (.bool true) ∧ w = w') := Lib.hid (fun w => h1 ▸ isLetter_any _ w)
        have HI : Hid (inCls [2, 3, 4] s[j] = true) := Lib.hid (by rw [inCls234, h1]; rfl)
        clear h1
        go_wp2_with (go_at_call 124; refine (C.out _).mono ?_; rintro e w' ⟨rfl, rfl⟩)
        go_round
        case rel => exact ⟨j + 1, by omega, by omega, by go_num, Lib.hid (by rw [HP.out, pastP_yes _ _ _ hlt HI.out])⟩
        case measure => simp [intOf]; omega
      · have h1' : ltB s[j].toNat = false := by simpa using h1
        have C : Hid (∀ w, Calls Tryd.prog 124 #[.int .u8 s[j].toNat] w fun e w' => e = .returned (.bool false) ∧ w = w') := Lib.hid (fun w => h1' ▸ isLetter_any _ w)
        by_cases h2 : dgB s[j].toNat = true
        · have D : Hid (∀ w, Calls Tryd.prog 111 #[.int .u8 s[j].toNat] w fun e w' => e = .returned (.bool true) ∧ w = w') := Lib.hid (fun w => h2 ▸ isDigit_any _ w)
          have HI : Hid (inCls [2, 3, 4] s[j] = true) := Lib.hid (by rw [inCls234, h1', h2]; rfl)
          clear h1 h1' h2
          go_wp2_with (first
            | (go_at_call 124; refine (C.out _).mono ?_; rintro e w' ⟨rfl, rfl⟩)
            | (go_at_call 111; refine (D.out _).mono ?_; rintro e w' ⟨rfl, rfl⟩))
          go_round
          case rel => exact ⟨j + 1, by omega, by omega, by go_num, Lib.hid (by rw [HP.out, pastP_yes _ _ _ hlt HI.out])⟩
          case measure => simp [intOf]; omega
        · have h2' : dgB s[j].toNat = false := by simpa using h2
          have D : Hid (∀ w, Calls Tryd.prog 111 #[.int .u8 s[j].toNat] w fun e w' => e = .returned (.bool false) ∧ w = w') := Lib.hid (fun w => h2' ▸ isDigit_any _ w)
          have HI : Hid (inCls [2, 3, 4] s[j] = false) := Lib.hid (by rw [inCls234, h1', h2']; rfl)
          clear h1 h1' h2 h2'
          go_wp2_with (first
            | (go_at_call 124; refine (C.out _).mono ?_; rintro e w' ⟨rfl, rfl⟩)
            | (go_at_call 111; refine (D.out _).mono ?_; rintro e w' ⟨rfl, rfl⟩))
          go_ret
          refine ⟨ret_str ?_, rfl⟩
          unfold runP
          rw [HP.out, pastP_no _ _ _ hlt HI.out]
    · go_wp2
      go_ret
      refine ⟨ret_str ?_, rfl⟩
      unfold runP
      rw [HP.out, pastP_end _ _ _ (by omega)]

set_option maxHeartbeats 400000 in
theorem note_any (s : ByteArray) (k : Nat) (w : World) (hs : s.size ≤ 140737488355328) (hk : k ≤ s.size) :
    Calls Tryd.prog 53 #[.string s, .int .i64 k] w fun e w' => e = .returned (.string (s.extract k (lineEndP s k))) ∧ w = w' := by
  go_enter Tryd.func53, Tryd.ntmps53
  go_wp2
  go_loop [5] (fun i => ∃ j : Nat, k ≤ j ∧ j ≤ s.size ∧ i = .int .i64 j ∧ Hid (lineEndP s k = lineEndP s j)) (fun i => s.size - (intOf i).toNat)
  case atStart => exact ⟨k, by omega, by omega, rfl, Lib.hid rfl⟩
  case round =>
    obtain ⟨j, hkj, hj, rfl, HP⟩ := hrel
    by_cases hlt : j < s.size
    · by_cases h1 : s[j].toNat = 10
      · have hb : ((s[j].toNat : Int) != 10) = false := by simp [h1]
        have HI : Hid ((fun c : UInt8 => c != 10) s[j] = false) := Lib.hid (by
          have : s[j] = 10 := UInt8.toNat_inj.1 h1
          simp [this])
        clear h1
        go_wp2
        go_ret
        refine ⟨ret_str ?_, rfl⟩
        rw [HP.out]
        unfold lineEndP
        rw [pastP_no _ _ _ hlt HI.out]
      · have hb : ((s[j].toNat : Int) != 10) = true := by simp; omega
        have HI : Hid ((fun c : UInt8 => c != 10) s[j] = true) := Lib.hid (by
          have : s[j] ≠ 10 := fun e => h1 (by rw [e]; rfl)
          simp [this])
        clear h1
        go_wp2
        go_round
        case rel => exact ⟨j + 1, by omega, by omega, by go_num, Lib.hid (by rw [HP.out]; unfold lineEndP; rw [pastP_yes _ _ _ hlt HI.out])⟩
        case measure => simp [intOf]; omega
    · go_wp2
      go_ret
      refine ⟨ret_str ?_, rfl⟩
      rw [HP.out]
      unfold lineEndP
      rw [pastP_end _ _ _ (by omega)]

theorem begP_eq (s t : ByteArray) (k : Nat) (_ : k + t.size ≤ s.size) : ((s.extract k (k + t.size)).toList == t.toList) = begP s k t := by
  rw [toList_beq]
  unfold begP Lib.hasPrefix
  rw [Bool.eq_iff_iff]
  simp only [decide_eq_true_eq, List.isPrefixOf_iff_prefix, List.prefix_iff_eq_take]
  have e : (s.extract k (k + t.size)).data.toList = (s.data.toList.drop k).take t.data.toList.length := by
    simp only [ByteArray.data_extract, Array.toList_extract, List.extract_eq_take_drop]
    rw [show k + t.size - k = t.size by omega]
    simp
  constructor
  · intro h1
    rw [← e, h1]
  · intro h1
    apply ByteArray.ext
    apply Array.ext'
    rw [e, ← h1]

theorem begP_long (s t : ByteArray) (k : Nat) (h : s.size < k + t.size) (hk : k ≤ s.size) : begP s k t = false := by
  unfold begP Lib.hasPrefix
  rw [Bool.eq_false_iff]
  intro h1
  have := (List.isPrefixOf_iff_prefix.1 h1).length_le
  simp at this
  omega

set_option maxHeartbeats 400000 in
theorem beginsAt_any (s t : ByteArray) (k : Nat) (w : World) (hs : s.size ≤ 140737488355328) (ht : t.size ≤ 140737488355328) (hk : k ≤ s.size) :
    Calls Tryd.prog 114 #[.string s, .int .i64 k, .string t] w fun e w' => e = .returned (.bool (begP s k t)) ∧ w = w' := by
  by_cases h : k + t.size ≤ s.size
  · have HE := Lib.hid (begP_eq s t k h)
    go_enter Tryd.func114, Tryd.ntmps114
    go_wp2
    go_ret
    exact ⟨ret_bool HE.out, rfl⟩
  · have HE := Lib.hid (begP_long s t k (by omega) hk)
    go_enter Tryd.func114, Tryd.ntmps114
    go_wp2
    go_ret
    exact ⟨ret_bool HE.out.symm, rfl⟩

/-- A slice value that holds texts, in a block below B. -/
def StrIn (W : World) (B : Nat) (v : Value) (l : List ByteArray) : Prop :=
  ∃ A c, v = .slice A l.length c ∧ ∀ i (x : ByteArray), l[i]? = some x → ∃ b off, A = some ⟨b, off, none⟩ ∧ b < B ∧ W.cell? ⟨b, off + i, none⟩ = some (.string x)

theorem StrIn.more {W : World} {B B' : Nat} {v : Value} {l : List ByteArray} (h : StrIn W B v l) (hB : B ≤ B') : StrIn W B' v l := by
  obtain ⟨A, c, rfl, hA⟩ := h
  refine ⟨A, c, rfl, fun i x hx => ?_⟩
  obtain ⟨b, off, rfl, h0, h1⟩ := hA i x hx
  exact ⟨b, off, rfl, by omega, h1⟩

theorem StrIn.below {W W' : World} {B : Nat} {v : Value} {l : List ByteArray} (h : StrIn W B v l) (hb : Below B W W') : StrIn W' B v l := by
  obtain ⟨A, c, rfl, hA⟩ := h
  refine ⟨A, c, rfl, fun i x hx => ?_⟩
  obtain ⟨b, off, rfl, hB, h1⟩ := hA i x hx
  exact ⟨b, off, rfl, hB, (hb.cell (p := ⟨b, _, none⟩) hB).trans h1⟩

theorem str_new (w : World) (l : List ByteArray) (vs : Array Value) (hv : vs = (l.map fun s => (Value.string s)).toArray) (n : Nat) (hn : n = l.length) : StrIn (w.alloc (.cells vs 9)) (w.heap.size + 1) (.slice (some ⟨w.heap.size, 0, none⟩) n n) l := by
  subst hv hn
  refine ⟨_, _, rfl, fun i x hx => ⟨_, _, rfl, by omega, ?_⟩⟩
  rw [World.cell?_alloc_at _ _ _ _ rfl]
  simp [hx]

def hasP (l : List ByteArray) (s : ByteArray) : Bool := l.any fun k => k.data.toList == s.data.toList

theorem hasP_step (l : List ByteArray) (s : ByteArray) (k : Nat) (x : ByteArray) (h : l[k]? = some x) : hasP (l.drop k) s = ((x.data.toList == s.data.toList) || hasP (l.drop (k + 1)) s) := by
  obtain ⟨hk, rfl⟩ := List.getElem?_eq_some_iff.1 h
  rw [List.drop_eq_getElem_cons hk]
  rfl

set_option maxHeartbeats 400000 in
theorem has_any (v : Value) (l : List ByteArray) (s : ByteArray) (w : World) (hl : l.length ≤ 140737488355328) (hv : StrIn w w.heap.size v l) :
    Calls Tryd.prog 109 #[v, .string s] w fun e w' => e = .returned (.bool (hasP l s)) ∧ w = w' := by
  obtain ⟨A, c, rfl, hA⟩ := hv
  have HA := Lib.hid hA
  clear hA
  go_enter Tryd.func109, Tryd.ntmps109
  go_wp2
  go_loop [5] (fun i => ∃ j : Nat, j ≤ l.length ∧ i = .int .i64 j ∧ Hid (hasP l s = hasP (l.drop j) s)) (fun i => l.length - (intOf i).toNat)
  case atStart => exact ⟨0, by omega, rfl, Lib.hid rfl⟩
  case round =>
    obtain ⟨j, hj, rfl, HP⟩ := hrel
    by_cases hlt : j < l.length
    · obtain ⟨x, hx⟩ : ∃ x, l[j]? = some x := ⟨_, List.getElem?_eq_getElem hlt⟩
      obtain ⟨b, off, rfl, hB, g1⟩ := HA.out j x hx
      have HX := Lib.hid hx
      clear hx
      by_cases he : (x.data.toList == s.data.toList) = true
      · have hb : (x.toList == s.toList) = true := by rw [toList_beq]; simpa [ByteArray.ext_iff, Array.ext_iff, beq_iff_eq] using he
        have HE := Lib.hid he
        clear he
        go_wp2
        go_ret
        refine ⟨ret_bool ?_, rfl⟩
        rw [HP.out, hasP_step l s j x HX.out, HE.out]
        rfl
      · have he' : (x.data.toList == s.data.toList) = false := by simpa using he
        have hb : (x.toList == s.toList) = false := by
          rw [Lib.toList_data, Lib.toList_data]
          exact he'
        have HE := Lib.hid he'
        clear he he'
        go_wp2
        go_round
        case rel => exact ⟨j + 1, by omega, by go_num, Lib.hid (by rw [HP.out, hasP_step l s j x HX.out, HE.out]; rfl)⟩
        case measure => simp [intOf]; omega
    · go_wp2
      go_ret
      refine ⟨ret_bool ?_, rfl⟩
      rw [HP.out, List.drop_eq_nil_of_le (by omega)]
      rfl

theorem refKeywords_any (w : World) : Calls Tryd.prog 110 #[] w fun e w' => ∃ v, e = .returned v ∧ Below w.heap.size w w' ∧ StrIn w' w'.heap.size v kwL := by
  go_enter Tryd.func110, Tryd.ntmps110
  go_wp2
  go_ret
  refine ⟨_, rfl, (Below.refl _ _).alloc (Nat.le_refl _) _, ?_⟩
  rw [World.size_alloc]
  exact str_new w kwL _ rfl _ rfl

theorem refSigns_any (w : World) : Calls Tryd.prog 113 #[] w fun e w' => ∃ v, e = .returned v ∧ Below w.heap.size w w' ∧ StrIn w' w'.heap.size v signL := by
  go_enter Tryd.func113, Tryd.ntmps113
  go_wp2
  go_ret
  refine ⟨_, rfl, (Below.refl _ _).alloc (Nat.le_refl _) _, ?_⟩
  rw [World.size_alloc]
  exact str_new w signL _ rfl _ rfl
end Go.Proofs.YtjadjmkbjolklaaDoor
