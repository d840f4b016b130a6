/- ArenaTexts: Parse of any text, here and in the reference, and the law. -/
import Derived.Test.YtklfojmflmablaaGreatDoorLtp
import Derived.Lib.SmallJoins
import Derived.Test.YtklfojmflmablaaGreatDoorAw
import Derived.Test.YtklfojmflmablaaGreatDoorLf
import Derived.Lib.LaidTab
/- The reference: Parse, of any text. -/
namespace Go.Proofs.YtklfojmflmablaaGreatDoor
open Go Go.RowKit Go.Shelf

def afterDot (R : List UInt8) : Int × List UInt8 :=
  match R with
  | [] => (0, [])
  | c :: r => if c.toNat = 46 then ((digs 0 0 r).1, r.drop (digs 0 0 r).2) else (0, c :: r)
/-- What the reference reads of a text. -/
def refRead (L : List UInt8) : Option Mv :=
  match (afterDot (L.drop (digs 0 0 L).2)).2 with
  | [] => none
  | c :: r => some ⟨(digs 0 0 L).1, (afterDot (L.drop (digs 0 0 L).2)).1, if c.toNat = 63 then 1 else if c.toNat = 61 then 2 else if c.toNat = 33 then 3 else 0, if c :: r = [33, 42] then -1 else (digs 0 0 r).1⟩
def refParse (s : ByteArray) : Mv × Int :=
  match refRead s.data.toList with
  | none => (zeroMv, 4)
  | some m => if textRes itx m = (s, 0) then (m, 0) else (zeroMv, 4)
theorem digs_le : ∀ (l : List UInt8) (k : Nat) (n : Int), k ≤ (digs k n l).2 ∧ (digs k n l).2 ≤ k + l.length
  | [], k, n => by simp [digs]
  | c :: r, k, n => by
    rw [digs]
    split
    · have := digs_le r (k + 1) (wrap64 (wrap64 (10 * n) + ((c.toNat : Int) - 48)))
      rw [List.length_cons]; omega
    · simp
theorem digs_max : ∀ (l : List UInt8) (k : Nat) (n : Int), n ≤ 9223372036854775807 → (digs k n l).1 ≤ 9223372036854775807
  | [], k, n, h => by simpa [digs] using h
  | c :: r, k, n, h => by
    rw [digs]
    split
    · exact digs_max r _ _ (by unfold wrap64; omega)
    · exact h
theorem ex_list (s : ByteArray) (k : Nat) : (s.extract k s.size).data.toList = s.data.toList.drop k := by
  exact Lib.extract_to_end s k
theorem sz_list (s : ByteArray) : s.data.toList.length = s.size := Array.length_toList
theorem ba_ext {a b : ByteArray} (h : a.data.toList = b.data.toList) : a = b := by
  apply ByteArray.ext
  exact Array.toList_inj.1 h
theorem text_err (m : Mv) : (textRes itx m).2 = 0 ∨ (textRes itx m).2 = 4 := by
  unfold textRes
  cases signOf m.kind with
  | none => exact .inr rfl
  | some s =>
    dsimp only
    split
    · exact .inl rfl
    · exact .inr rfl
theorem nat_eq {c : UInt8} {k : Nat} (h : c.toNat = k) : ((c.toNat : Int) == (k : Int)) = true := by rw [h]; simp
theorem nat_ne {c : UInt8} {k : Nat} (h : ¬ c.toNat = k) : ((c.toNat : Int) == (k : Int)) = false := by rw [beq_eq_false_iff_ne]; omega
theorem head_of {s : ByteArray} {c : UInt8} {r : List UInt8} (h : s.data.toList = c :: r) (hp : 0 < s.size) : s[0]'hp = c := by
  have : s.data.toList[0]'(by rw [h]; simp) = c := by simp [h]
  rw [← this]
  rfl

theorem refParse_any (s : ByteArray) (w : World) (hs : s.size ≤ 1000) : Calls Tryz.prog 45 #[.string s] w fun e w' => e = .returned (.tuple #[mvV (refParse s).1, .int .i64 (refParse s).2]) ∧ Below w.heap.size w w' := by
  obtain ⟨L, hL⟩ : ∃ L, s.data.toList = L := ⟨_, rfl⟩
  have hLs : L.length = s.size := by rw [← hL]; exact sz_list s
  obtain ⟨⟨n1, k1⟩, hd1⟩ : ∃ d, digs 0 0 L = d := ⟨_, rfl⟩
  have C1 : Hid (∀ W, Calls Tryz.prog 113 #[.string s] W fun e w' => e = .returned (.tuple #[.int .i64 n1, .int .i64 (k1 : Int)]) ∧ W = w') := Lib.hid fun W => by have := digits_any s W hs; rwa [hL, hd1] at this
  have hk1 : k1 ≤ s.size := by have := (digs_le L 0 0).2; rw [hd1] at this; simp at this; omega
  have hn1 : n1 ≤ 9223372036854775807 := by have := digs_max L 0 0 (by omega); rwa [hd1] at this
  obtain ⟨S1, hS1⟩ : ∃ S1, s.extract k1 s.size = S1 := ⟨_, rfl⟩
  have hR1 : S1.data.toList = L.drop k1 := by rw [← hS1, ex_list, hL]
  have hz1 : S1.size ≤ s.size := by rw [← sz_list S1, hR1, List.length_drop]; omega
  have hread : refRead L = match (afterDot S1.data.toList).2 with
      | [] => none
      | c :: r => some ⟨n1, (afterDot S1.data.toList).1, if c.toNat = 63 then 1 else if c.toNat = 61 then 2 else if c.toNat = 33 then 3 else 0, if c :: r = [33, 42] then -1 else (digs 0 0 r).1⟩ := by
    unfold refRead; rw [hd1, hR1]
  have hP : refParse s = match refRead L with
      | none => (zeroMv, 4)
      | some m => if textRes itx m = (s, 0) then (m, 0) else (zeroMv, 4) := by unfold refParse; rw [hL]
  cases hr1 : S1.data.toList with
  | nil =>
    have hz0 : S1.size = 0 := by rw [← sz_list S1, hr1]; rfl
    rw [hr1] at hread
    have hn : refRead L = none := hread
    rw [hn] at hP
    rw [hP]
    exact pe_n s S1 n1 k1 w C1 hk1 hs hS1 hz0 (by rw [ByteArray.toList_eq, hr1]; rfl)
  | cons c r =>
    have hp1 : 0 < S1.size := by rw [← sz_list S1, hr1]; simp
    have hc : S1[0]'hp1 = c := head_of hr1 hp1
    rw [hr1] at hread
    by_cases h46 : c.toNat = 46
    · obtain ⟨Sb, hSb⟩ : ∃ Sb, S1.extract 1 S1.size = Sb := ⟨_, rfl⟩
      have hRb : Sb.data.toList = r := by rw [← hSb, ex_list, hr1]; rfl
      obtain ⟨⟨n2, k2⟩, hd2⟩ : ∃ d, digs 0 0 r = d := ⟨_, rfl⟩
      have hzb : Sb.size = r.length := by rw [← sz_list Sb, hRb]
      have hzc : S1.size = r.length + 1 := by rw [← sz_list S1, hr1]; rfl
      have C2 : Hid (∀ W, Calls Tryz.prog 113 #[.string Sb] W fun e w' => e = .returned (.tuple #[.int .i64 n2, .int .i64 (k2 : Int)]) ∧ W = w') := Lib.hid fun W => by have := digits_any Sb W (by omega); rwa [hRb, hd2] at this
      have hk2 : 1 + k2 ≤ S1.size := by have := (digs_le r 0 0).2; rw [hd2] at this; simp at this; omega
      have hn2 : n2 ≤ 9223372036854775807 := by have := digs_max r 0 0 (by omega); rwa [hd2] at this
      obtain ⟨S2, hS2⟩ : ∃ S2, S1.extract (1 + k2) S1.size = S2 := ⟨_, rfl⟩
      have hR2 : S2.data.toList = r.drop k2 := by rw [← hS2, ex_list, hr1, Nat.add_comm]; rfl
      have had : afterDot (c :: r) = (n2, r.drop k2) := by unfold afterDot; dsimp only; rw [if_pos h46, hd2]
      rw [had, ← hR2] at hread
      dsimp only at hread
      cases hr2 : S2.data.toList with
      | nil =>
        rw [hr2] at hread
        have hn : refRead L = none := hread
        rw [hn] at hP
        rw [hP]
        exact pe_y s S1 n1 k1 w C1 hk1 hs hS1 hp1 c hc (nat_eq h46) Sb S2 n2 k2 hSb C2 hk2 hS2 (by omega) (by rw [ByteArray.toList_eq, hr2]; rfl)
      | cons c2 r2 =>
        have hp2 : 0 < S2.size := by rw [← sz_list S2, hr2]; simp
        have hc2 : S2[0]'hp2 = c2 := head_of hr2 hp2
        rw [hr2] at hread
        obtain ⟨S3, hS3⟩ : ∃ S3, S2.extract 1 S2.size = S3 := ⟨_, rfl⟩
        have hR3 : S3.data.toList = r2 := by rw [← hS3, ex_list, hr2]; rfl
        obtain ⟨⟨n3, k3⟩, hd3⟩ : ∃ d, digs 0 0 r2 = d := ⟨_, rfl⟩
        have hz23 : S2.size ≤ S1.size := by rw [← sz_list S2, hR2, List.length_drop]; omega
        have hz3 : S3.size ≤ 1000 := by have h1 := sz_list S3; have h2 := sz_list S2; rw [hR3] at h1; rw [hr2] at h2; simp at h2; omega
        have C3 : Hid (∀ W, Calls Tryz.prog 113 #[.string S3] W fun e w' => e = .returned (.tuple #[.int .i64 n3, .int .i64 (k3 : Int)]) ∧ W = w') := Lib.hid fun W => by have := digits_any S3 W hz3; rwa [hR3, hd3] at this
        have hn3 : n3 ≤ 9223372036854775807 := by have := digs_max r2 0 0 (by omega); rwa [hd3] at this
        have hem : S2.toList.isEmpty = false := by rw [ByteArray.toList_eq, hr2]; rfl
        try dsimp only at hread
        rw [hd3] at hread
        try dsimp only at hread
        by_cases k63 : c2.toNat = 63
        · have hstar : ¬ (c2 :: r2 = [33, 42]) := by intro e; injection e with e1 _; rw [e1] at k63; exact absurd k63 (by decide)
          have hm : refRead L = some ⟨n1, n2, 1, n3⟩ := by rw [hread, if_pos k63, if_neg hstar]
          rw [hm] at hP
          dsimp only at hP
          obtain ⟨⟨T, es⟩, hT⟩ : ∃ R, textRes itx ⟨n1, n2, 1, n3⟩ = R := ⟨_, rfl⟩
          have CT : Hid (∀ W, Calls Tryz.prog 44 #[mvV ⟨n1, n2, 1, n3⟩] W fun e w' => e = .returned (.tuple #[.string T, .int .i64 es]) ∧ Below W.heap.size W w') := Lib.hid fun W => by have := refText_any ⟨n1, n2, 1, n3⟩ W hn1 hn2 hn3; rwa [hT] at this
          rw [hT] at hP
          have he := text_err ⟨n1, n2, 1, n3⟩
          rw [hT] at he
          dsimp only at he
          rcases he with rfl | rfl
          · by_cases hTs : T = s
            · subst hTs; rw [if_pos rfl] at hP; rw [hP]; exact pp_y1fy T S1 S3 n1 n3 k1 k3 w C1 hk1 hs hS1 hp1 c hc (nat_eq h46) Sb S2 n2 k2 hSb C2 hk2 hS2 hp2 c2 hc2 (by omega) (nat_eq k63) hem hS3 C3 (by rw [ByteArray.toList_eq, hr2, beq_eq_false_iff_ne]; exact hstar) T CT (by simp)
            · rw [if_neg (by intro e; cases e; exact hTs rfl)] at hP; rw [hP]; exact pp_y1fn s S1 S3 n1 n3 k1 k3 w C1 hk1 hs hS1 hp1 c hc (nat_eq h46) Sb S2 n2 k2 hSb C2 hk2 hS2 hp2 c2 hc2 (by omega) (nat_eq k63) hem hS3 C3 (by rw [ByteArray.toList_eq, hr2, beq_eq_false_iff_ne]; exact hstar) T CT (by rw [ByteArray.toList_eq, ByteArray.toList_eq, beq_eq_false_iff_ne]; exact fun e => hTs (ba_ext e))
          · rw [if_neg (by intro e; cases e)] at hP; rw [hP]; exact pp_y1fe s S1 S3 n1 n3 k1 k3 w C1 hk1 hs hS1 hp1 c hc (nat_eq h46) Sb S2 n2 k2 hSb C2 hk2 hS2 hp2 c2 hc2 (by omega) (nat_eq k63) hem hS3 C3 (by rw [ByteArray.toList_eq, hr2, beq_eq_false_iff_ne]; exact hstar) T 4 rfl CT
        · by_cases k61 : c2.toNat = 61
          · have hstar : ¬ (c2 :: r2 = [33, 42]) := by intro e; injection e with e1 _; rw [e1] at k61; exact absurd k61 (by decide)
            have hm : refRead L = some ⟨n1, n2, 2, n3⟩ := by rw [hread, if_neg k63, if_pos k61, if_neg hstar]
            rw [hm] at hP
            dsimp only at hP
            obtain ⟨⟨T, es⟩, hT⟩ : ∃ R, textRes itx ⟨n1, n2, 2, n3⟩ = R := ⟨_, rfl⟩
            have CT : Hid (∀ W, Calls Tryz.prog 44 #[mvV ⟨n1, n2, 2, n3⟩] W fun e w' => e = .returned (.tuple #[.string T, .int .i64 es]) ∧ Below W.heap.size W w') := Lib.hid fun W => by have := refText_any ⟨n1, n2, 2, n3⟩ W hn1 hn2 hn3; rwa [hT] at this
            rw [hT] at hP
            have he := text_err ⟨n1, n2, 2, n3⟩
            rw [hT] at he
            dsimp only at he
            rcases he with rfl | rfl
            · by_cases hTs : T = s
              · subst hTs; rw [if_pos rfl] at hP; rw [hP]; exact pp_y2fy T S1 S3 n1 n3 k1 k3 w C1 hk1 hs hS1 hp1 c hc (nat_eq h46) Sb S2 n2 k2 hSb C2 hk2 hS2 hp2 c2 hc2 (by omega) (nat_ne k63) (nat_eq k61) hem hS3 C3 (by rw [ByteArray.toList_eq, hr2, beq_eq_false_iff_ne]; exact hstar) T CT (by simp)
              · rw [if_neg (by intro e; cases e; exact hTs rfl)] at hP; rw [hP]; exact pp_y2fn s S1 S3 n1 n3 k1 k3 w C1 hk1 hs hS1 hp1 c hc (nat_eq h46) Sb S2 n2 k2 hSb C2 hk2 hS2 hp2 c2 hc2 (by omega) (nat_ne k63) (nat_eq k61) hem hS3 C3 (by rw [ByteArray.toList_eq, hr2, beq_eq_false_iff_ne]; exact hstar) T CT (by rw [ByteArray.toList_eq, ByteArray.toList_eq, beq_eq_false_iff_ne]; exact fun e => hTs (ba_ext e))
            · rw [if_neg (by intro e; cases e)] at hP; rw [hP]; exact pp_y2fe s S1 S3 n1 n3 k1 k3 w C1 hk1 hs hS1 hp1 c hc (nat_eq h46) Sb S2 n2 k2 hSb C2 hk2 hS2 hp2 c2 hc2 (by omega) (nat_ne k63) (nat_eq k61) hem hS3 C3 (by rw [ByteArray.toList_eq, hr2, beq_eq_false_iff_ne]; exact hstar) T 4 rfl CT
          · by_cases k33 : c2.toNat = 33
            · by_cases hstar : c2 :: r2 = [33, 42]
              · skip
                have hm : refRead L = some ⟨n1, n2, 3, (-1)⟩ := by rw [hread, if_neg k63, if_neg k61, if_pos k33, if_pos hstar]
                rw [hm] at hP
                dsimp only at hP
                obtain ⟨⟨T, es⟩, hT⟩ : ∃ R, textRes itx ⟨n1, n2, 3, (-1)⟩ = R := ⟨_, rfl⟩
                have CT : Hid (∀ W, Calls Tryz.prog 44 #[mvV ⟨n1, n2, 3, (-1)⟩] W fun e w' => e = .returned (.tuple #[.string T, .int .i64 es]) ∧ Below W.heap.size W w') := Lib.hid fun W => by have := refText_any ⟨n1, n2, 3, (-1)⟩ W hn1 hn2 (by show (-1 : Int) ≤ _; decide); rwa [hT] at this
                rw [hT] at hP
                have he := text_err ⟨n1, n2, 3, (-1)⟩
                rw [hT] at he
                dsimp only at he
                rcases he with rfl | rfl
                · by_cases hTs : T = s
                  · subst hTs; rw [if_pos rfl] at hP; rw [hP]; exact pp_y3ty T S1 S3 n1 n3 k1 k3 w C1 hk1 hs hS1 hp1 c hc (nat_eq h46) Sb S2 n2 k2 hSb C2 hk2 hS2 hp2 c2 hc2 (by omega) (nat_ne k63) (nat_ne k61) (nat_eq k33) hem hS3 C3 (by rw [ByteArray.toList_eq, hr2, hstar]; rfl) T CT (by simp)
                  · rw [if_neg (by intro e; cases e; exact hTs rfl)] at hP; rw [hP]; exact pp_y3tn s S1 S3 n1 n3 k1 k3 w C1 hk1 hs hS1 hp1 c hc (nat_eq h46) Sb S2 n2 k2 hSb C2 hk2 hS2 hp2 c2 hc2 (by omega) (nat_ne k63) (nat_ne k61) (nat_eq k33) hem hS3 C3 (by rw [ByteArray.toList_eq, hr2, hstar]; rfl) T CT (by rw [ByteArray.toList_eq, ByteArray.toList_eq, beq_eq_false_iff_ne]; exact fun e => hTs (ba_ext e))
                · rw [if_neg (by intro e; cases e)] at hP; rw [hP]; exact pp_y3te s S1 S3 n1 n3 k1 k3 w C1 hk1 hs hS1 hp1 c hc (nat_eq h46) Sb S2 n2 k2 hSb C2 hk2 hS2 hp2 c2 hc2 (by omega) (nat_ne k63) (nat_ne k61) (nat_eq k33) hem hS3 C3 (by rw [ByteArray.toList_eq, hr2, hstar]; rfl) T 4 rfl CT
              · skip
                have hm : refRead L = some ⟨n1, n2, 3, n3⟩ := by rw [hread, if_neg k63, if_neg k61, if_pos k33, if_neg hstar]
                rw [hm] at hP
                dsimp only at hP
                obtain ⟨⟨T, es⟩, hT⟩ : ∃ R, textRes itx ⟨n1, n2, 3, n3⟩ = R := ⟨_, rfl⟩
                have CT : Hid (∀ W, Calls Tryz.prog 44 #[mvV ⟨n1, n2, 3, n3⟩] W fun e w' => e = .returned (.tuple #[.string T, .int .i64 es]) ∧ Below W.heap.size W w') := Lib.hid fun W => by have := refText_any ⟨n1, n2, 3, n3⟩ W hn1 hn2 hn3; rwa [hT] at this
                rw [hT] at hP
                have he := text_err ⟨n1, n2, 3, n3⟩
                rw [hT] at he
                dsimp only at he
                rcases he with rfl | rfl
                · by_cases hTs : T = s
                  · subst hTs; rw [if_pos rfl] at hP; rw [hP]; exact pp_y3fy T S1 S3 n1 n3 k1 k3 w C1 hk1 hs hS1 hp1 c hc (nat_eq h46) Sb S2 n2 k2 hSb C2 hk2 hS2 hp2 c2 hc2 (by omega) (nat_ne k63) (nat_ne k61) (nat_eq k33) hem hS3 C3 (by rw [ByteArray.toList_eq, hr2, beq_eq_false_iff_ne]; exact hstar) T CT (by simp)
                  · rw [if_neg (by intro e; cases e; exact hTs rfl)] at hP; rw [hP]; exact pp_y3fn s S1 S3 n1 n3 k1 k3 w C1 hk1 hs hS1 hp1 c hc (nat_eq h46) Sb S2 n2 k2 hSb C2 hk2 hS2 hp2 c2 hc2 (by omega) (nat_ne k63) (nat_ne k61) (nat_eq k33) hem hS3 C3 (by rw [ByteArray.toList_eq, hr2, beq_eq_false_iff_ne]; exact hstar) T CT (by rw [ByteArray.toList_eq, ByteArray.toList_eq, beq_eq_false_iff_ne]; exact fun e => hTs (ba_ext e))
                · rw [if_neg (by intro e; cases e)] at hP; rw [hP]; exact pp_y3fe s S1 S3 n1 n3 k1 k3 w C1 hk1 hs hS1 hp1 c hc (nat_eq h46) Sb S2 n2 k2 hSb C2 hk2 hS2 hp2 c2 hc2 (by omega) (nat_ne k63) (nat_ne k61) (nat_eq k33) hem hS3 C3 (by rw [ByteArray.toList_eq, hr2, beq_eq_false_iff_ne]; exact hstar) T 4 rfl CT
            · have hstar : ¬ (c2 :: r2 = [33, 42]) := by intro e; injection e with e1 _; exact k33 (by rw [e1]; rfl)
              have hm : refRead L = some ⟨n1, n2, 0, n3⟩ := by rw [hread, if_neg k63, if_neg k61, if_neg k33, if_neg hstar]
              rw [hm] at hP
              dsimp only at hP
              obtain ⟨⟨T, es⟩, hT⟩ : ∃ R, textRes itx ⟨n1, n2, 0, n3⟩ = R := ⟨_, rfl⟩
              have CT : Hid (∀ W, Calls Tryz.prog 44 #[mvV ⟨n1, n2, 0, n3⟩] W fun e w' => e = .returned (.tuple #[.string T, .int .i64 es]) ∧ Below W.heap.size W w') := Lib.hid fun W => by have := refText_any ⟨n1, n2, 0, n3⟩ W hn1 hn2 hn3; rwa [hT] at this
              rw [hT] at hP
              have he := text_err ⟨n1, n2, 0, n3⟩
              rw [hT] at he
              dsimp only at he
              rcases he with rfl | rfl
              · exfalso; have := text_bad (m := ⟨n1, n2, 0, n3⟩) (.inr rfl); rw [hT] at this; cases this
              · rw [if_neg (by intro e; cases e)] at hP; rw [hP]; exact pp_y0fe s S1 S3 n1 n3 k1 k3 w C1 hk1 hs hS1 hp1 c hc (nat_eq h46) Sb S2 n2 k2 hSb C2 hk2 hS2 hp2 c2 hc2 (by omega) (nat_ne k63) (nat_ne k61) (nat_ne k33) hem hS3 C3 (by rw [ByteArray.toList_eq, hr2, beq_eq_false_iff_ne]; exact hstar) T 4 rfl CT
    · have had : afterDot (c :: r) = (0, c :: r) := by unfold afterDot; dsimp only; rw [if_neg h46]
      rw [had] at hread
      dsimp only at hread
      obtain ⟨S3, hS3⟩ : ∃ S3, S1.extract 1 S1.size = S3 := ⟨_, rfl⟩
      have hR3 : S3.data.toList = r := by rw [← hS3, ex_list, hr1]; rfl
      obtain ⟨⟨n3, k3⟩, hd3⟩ : ∃ d, digs 0 0 r = d := ⟨_, rfl⟩
      have hz3 : S3.size ≤ 1000 := by have h1 := sz_list S3; have h2 := sz_list S1; rw [hR3] at h1; rw [hr1] at h2; simp at h2; omega
      have C3 : Hid (∀ W, Calls Tryz.prog 113 #[.string S3] W fun e w' => e = .returned (.tuple #[.int .i64 n3, .int .i64 (k3 : Int)]) ∧ W = w') := Lib.hid fun W => by have := digits_any S3 W hz3; rwa [hR3, hd3] at this
      have hn3 : n3 ≤ 9223372036854775807 := by have := digs_max r 0 0 (by omega); rwa [hd3] at this
      have hem : S1.toList.isEmpty = false := by rw [ByteArray.toList_eq, hr1]; rfl
      try dsimp only at hread
      rw [hd3] at hread
      try dsimp only at hread
      by_cases k63 : c.toNat = 63
      · have hstar : ¬ (c :: r = [33, 42]) := by intro e; injection e with e1 _; rw [e1] at k63; exact absurd k63 (by decide)
        have hm : refRead L = some ⟨n1, 0, 1, n3⟩ := by rw [hread, if_pos k63, if_neg hstar]
        rw [hm] at hP
        dsimp only at hP
        obtain ⟨⟨T, es⟩, hT⟩ : ∃ R, textRes itx ⟨n1, 0, 1, n3⟩ = R := ⟨_, rfl⟩
        have CT : Hid (∀ W, Calls Tryz.prog 44 #[mvV ⟨n1, 0, 1, n3⟩] W fun e w' => e = .returned (.tuple #[.string T, .int .i64 es]) ∧ Below W.heap.size W w') := Lib.hid fun W => by have := refText_any ⟨n1, 0, 1, n3⟩ W hn1 (by show (0 : Int) ≤ _; decide) hn3; rwa [hT] at this
        rw [hT] at hP
        have he := text_err ⟨n1, 0, 1, n3⟩
        rw [hT] at he
        dsimp only at he
        rcases he with rfl | rfl
        · by_cases hTs : T = s
          · subst hTs; rw [if_pos rfl] at hP; rw [hP]; exact pp_n1fy T S1 S3 n1 n3 k1 k3 w C1 hk1 hs hS1 hp1 c hc (nat_ne h46) (nat_eq k63) hem hS3 C3 (by rw [ByteArray.toList_eq, hr1, beq_eq_false_iff_ne]; exact hstar) T CT (by simp)
          · rw [if_neg (by intro e; cases e; exact hTs rfl)] at hP; rw [hP]; exact pp_n1fn s S1 S3 n1 n3 k1 k3 w C1 hk1 hs hS1 hp1 c hc (nat_ne h46) (nat_eq k63) hem hS3 C3 (by rw [ByteArray.toList_eq, hr1, beq_eq_false_iff_ne]; exact hstar) T CT (by rw [ByteArray.toList_eq, ByteArray.toList_eq, beq_eq_false_iff_ne]; exact fun e => hTs (ba_ext e))
        · rw [if_neg (by intro e; cases e)] at hP; rw [hP]; exact pp_n1fe s S1 S3 n1 n3 k1 k3 w C1 hk1 hs hS1 hp1 c hc (nat_ne h46) (nat_eq k63) hem hS3 C3 (by rw [ByteArray.toList_eq, hr1, beq_eq_false_iff_ne]; exact hstar) T 4 rfl CT
      · by_cases k61 : c.toNat = 61
        · have hstar : ¬ (c :: r = [33, 42]) := by intro e; injection e with e1 _; rw [e1] at k61; exact absurd k61 (by decide)
          have hm : refRead L = some ⟨n1, 0, 2, n3⟩ := by rw [hread, if_neg k63, if_pos k61, if_neg hstar]
          rw [hm] at hP
          dsimp only at hP
          obtain ⟨⟨T, es⟩, hT⟩ : ∃ R, textRes itx ⟨n1, 0, 2, n3⟩ = R := ⟨_, rfl⟩
          have CT : Hid (∀ W, Calls Tryz.prog 44 #[mvV ⟨n1, 0, 2, n3⟩] W fun e w' => e = .returned (.tuple #[.string T, .int .i64 es]) ∧ Below W.heap.size W w') := Lib.hid fun W => by have := refText_any ⟨n1, 0, 2, n3⟩ W hn1 (by show (0 : Int) ≤ _; decide) hn3; rwa [hT] at this
          rw [hT] at hP
          have he := text_err ⟨n1, 0, 2, n3⟩
          rw [hT] at he
          dsimp only at he
          rcases he with rfl | rfl
          · by_cases hTs : T = s
            · subst hTs; rw [if_pos rfl] at hP; rw [hP]; exact pp_n2fy T S1 S3 n1 n3 k1 k3 w C1 hk1 hs hS1 hp1 c hc (nat_ne h46) (nat_ne k63) (nat_eq k61) hem hS3 C3 (by rw [ByteArray.toList_eq, hr1, beq_eq_false_iff_ne]; exact hstar) T CT (by simp)
            · rw [if_neg (by intro e; cases e; exact hTs rfl)] at hP; rw [hP]; exact pp_n2fn s S1 S3 n1 n3 k1 k3 w C1 hk1 hs hS1 hp1 c hc (nat_ne h46) (nat_ne k63) (nat_eq k61) hem hS3 C3 (by rw [ByteArray.toList_eq, hr1, beq_eq_false_iff_ne]; exact hstar) T CT (by rw [ByteArray.toList_eq, ByteArray.toList_eq, beq_eq_false_iff_ne]; exact fun e => hTs (ba_ext e))
          · rw [if_neg (by intro e; cases e)] at hP; rw [hP]; exact pp_n2fe s S1 S3 n1 n3 k1 k3 w C1 hk1 hs hS1 hp1 c hc (nat_ne h46) (nat_ne k63) (nat_eq k61) hem hS3 C3 (by rw [ByteArray.toList_eq, hr1, beq_eq_false_iff_ne]; exact hstar) T 4 rfl CT
        · by_cases k33 : c.toNat = 33
          · by_cases hstar : c :: r = [33, 42]
            · skip
              have hm : refRead L = some ⟨n1, 0, 3, (-1)⟩ := by rw [hread, if_neg k63, if_neg k61, if_pos k33, if_pos hstar]
              rw [hm] at hP
              dsimp only at hP
              obtain ⟨⟨T, es⟩, hT⟩ : ∃ R, textRes itx ⟨n1, 0, 3, (-1)⟩ = R := ⟨_, rfl⟩
              have CT : Hid (∀ W, Calls Tryz.prog 44 #[mvV ⟨n1, 0, 3, (-1)⟩] W fun e w' => e = .returned (.tuple #[.string T, .int .i64 es]) ∧ Below W.heap.size W w') := Lib.hid fun W => by have := refText_any ⟨n1, 0, 3, (-1)⟩ W hn1 (by show (0 : Int) ≤ _; decide) (by show (-1 : Int) ≤ _; decide); rwa [hT] at this
              rw [hT] at hP
              have he := text_err ⟨n1, 0, 3, (-1)⟩
              rw [hT] at he
              dsimp only at he
              rcases he with rfl | rfl
              · by_cases hTs : T = s
                · subst hTs; rw [if_pos rfl] at hP; rw [hP]; exact pp_n3ty T S1 S3 n1 n3 k1 k3 w C1 hk1 hs hS1 hp1 c hc (nat_ne h46) (nat_ne k63) (nat_ne k61) (nat_eq k33) hem hS3 C3 (by rw [ByteArray.toList_eq, hr1, hstar]; rfl) T CT (by simp)
                · rw [if_neg (by intro e; cases e; exact hTs rfl)] at hP; rw [hP]; exact pp_n3tn s S1 S3 n1 n3 k1 k3 w C1 hk1 hs hS1 hp1 c hc (nat_ne h46) (nat_ne k63) (nat_ne k61) (nat_eq k33) hem hS3 C3 (by rw [ByteArray.toList_eq, hr1, hstar]; rfl) T CT (by rw [ByteArray.toList_eq, ByteArray.toList_eq, beq_eq_false_iff_ne]; exact fun e => hTs (ba_ext e))
              · rw [if_neg (by intro e; cases e)] at hP; rw [hP]; exact pp_n3te s S1 S3 n1 n3 k1 k3 w C1 hk1 hs hS1 hp1 c hc (nat_ne h46) (nat_ne k63) (nat_ne k61) (nat_eq k33) hem hS3 C3 (by rw [ByteArray.toList_eq, hr1, hstar]; rfl) T 4 rfl CT
            · skip
              have hm : refRead L = some ⟨n1, 0, 3, n3⟩ := by rw [hread, if_neg k63, if_neg k61, if_pos k33, if_neg hstar]
              rw [hm] at hP
              dsimp only at hP
              obtain ⟨⟨T, es⟩, hT⟩ : ∃ R, textRes itx ⟨n1, 0, 3, n3⟩ = R := ⟨_, rfl⟩
              have CT : Hid (∀ W, Calls Tryz.prog 44 #[mvV ⟨n1, 0, 3, n3⟩] W fun e w' => e = .returned (.tuple #[.string T, .int .i64 es]) ∧ Below W.heap.size W w') := Lib.hid fun W => by have := refText_any ⟨n1, 0, 3, n3⟩ W hn1 (by show (0 : Int) ≤ _; decide) hn3; rwa [hT] at this
              rw [hT] at hP
              have he := text_err ⟨n1, 0, 3, n3⟩
              rw [hT] at he
              dsimp only at he
              rcases he with rfl | rfl
              · by_cases hTs : T = s
                · subst hTs; rw [if_pos rfl] at hP; rw [hP]; exact pp_n3fy T S1 S3 n1 n3 k1 k3 w C1 hk1 hs hS1 hp1 c hc (nat_ne h46) (nat_ne k63) (nat_ne k61) (nat_eq k33) hem hS3 C3 (by rw [ByteArray.toList_eq, hr1, beq_eq_false_iff_ne]; exact hstar) T CT (by simp)
                · rw [if_neg (by intro e; cases e; exact hTs rfl)] at hP; rw [hP]; exact pp_n3fn s S1 S3 n1 n3 k1 k3 w C1 hk1 hs hS1 hp1 c hc (nat_ne h46) (nat_ne k63) (nat_ne k61) (nat_eq k33) hem hS3 C3 (by rw [ByteArray.toList_eq, hr1, beq_eq_false_iff_ne]; exact hstar) T CT (by rw [ByteArray.toList_eq, ByteArray.toList_eq, beq_eq_false_iff_ne]; exact fun e => hTs (ba_ext e))
              · rw [if_neg (by intro e; cases e)] at hP; rw [hP]; exact pp_n3fe s S1 S3 n1 n3 k1 k3 w C1 hk1 hs hS1 hp1 c hc (nat_ne h46) (nat_ne k63) (nat_ne k61) (nat_eq k33) hem hS3 C3 (by rw [ByteArray.toList_eq, hr1, beq_eq_false_iff_ne]; exact hstar) T 4 rfl CT
          · have hstar : ¬ (c :: r = [33, 42]) := by intro e; injection e with e1 _; exact k33 (by rw [e1]; rfl)
            have hm : refRead L = some ⟨n1, 0, 0, n3⟩ := by rw [hread, if_neg k63, if_neg k61, if_neg k33, if_neg hstar]
            rw [hm] at hP
            dsimp only at hP
            obtain ⟨⟨T, es⟩, hT⟩ : ∃ R, textRes itx ⟨n1, 0, 0, n3⟩ = R := ⟨_, rfl⟩
            have CT : Hid (∀ W, Calls Tryz.prog 44 #[mvV ⟨n1, 0, 0, n3⟩] W fun e w' => e = .returned (.tuple #[.string T, .int .i64 es]) ∧ Below W.heap.size W w') := Lib.hid fun W => by have := refText_any ⟨n1, 0, 0, n3⟩ W hn1 (by show (0 : Int) ≤ _; decide) hn3; rwa [hT] at this
            rw [hT] at hP
            have he := text_err ⟨n1, 0, 0, n3⟩
            rw [hT] at he
            dsimp only at he
            rcases he with rfl | rfl
            · exfalso; have := text_bad (m := ⟨n1, 0, 0, n3⟩) (.inr rfl); rw [hT] at this; cases this
            · rw [if_neg (by intro e; cases e)] at hP; rw [hP]; exact pp_n0fe s S1 S3 n1 n3 k1 k3 w C1 hk1 hs hS1 hp1 c hc (nat_ne h46) (nat_ne k63) (nat_ne k61) (nat_ne k33) hem hS3 C3 (by rw [ByteArray.toList_eq, hr1, beq_eq_false_iff_ne]; exact hstar) T 4 rfl CT
end Go.Proofs.YtklfojmflmablaaGreatDoor
/- The reference reads what was written; the program and the reference read alike. -/
namespace Go.Proofs.YtklfojmflmablaaGreatDoor
open Go Go.RowKit Go.Shelf

theorem dec_len_step {n : Nat} (h : ¬ n < 10) : (Lib.decDigits n).length = (Lib.decDigits (n / 10)).length + 1 := by
  rw [Lib.decDigits, dif_neg h, List.length_append]; rfl
theorem digs_dec (n : Nat) : n ≤ 9223372036854775807 → ∀ rest, digs 0 0 (Lib.decDigits n ++ rest) = digs (Lib.decDigits n).length (n : Int) rest := by
  induction n using Nat.strongRecOn with
  | ind n ih =>
    intro hn rest
    by_cases h : n < 10
    · rw [Lib.decDigits_one h]
      show digs 0 0 (UInt8.ofNat (48 + n) :: rest) = _
      rw [digs, dg_nat h, if_pos ⟨by omega, by omega, by omega⟩]
      congr 1
      unfold wrap64
      omega
    · have hl := dec_len_step h
      have h18 : (Lib.decDigits (n / 10)).length ≤ 18 := dec_size (n / 10) 17 (by omega)
      rw [hl, Lib.decDigits, dif_neg h, List.append_assoc, ih (n / 10) (by omega) (by omega)]
      show digs _ _ (UInt8.ofNat (48 + n % 10) :: rest) = _
      rw [digs, dg_nat (Nat.mod_lt _ (by decide)), if_pos ⟨by omega, by omega, by omega⟩]
      congr 1
      unfold wrap64
      omega
theorem digs_stop (k : Nat) (n : Int) (rest : List UInt8) (h : ∀ c r, rest = c :: r → ¬ isDg c) : digs k n rest = (n, k) := by
  cases rest with
  | nil => rfl
  | cons c r =>
    have := h c r rfl
    unfold isDg at this
    rw [digs, if_neg (by omega)]
theorem digs_num (n : Nat) (h : n ≤ 9223372036854775807) (rest : List UInt8) (hr : ∀ c r, rest = c :: r → ¬ isDg c) : digs 0 0 (Lib.decDigits n ++ rest) = ((n : Int), (Lib.decDigits n).length) := by
  rw [digs_dec n h, digs_stop _ _ _ hr]
theorem digs_nil : digs 0 0 [] = (0, 0) := rfl
theorem sg_46 (k : Int) : ¬ (sgB k).toNat = 46 := by
  unfold sgB
  split
  · decide
  · split <;> decide
/-- The reference reads what was written. -/
theorem refRead_text {m : Mv} (h : okMv m) : refRead (plL m ++ sgB m.kind :: vaL m) = some m := by
  obtain ⟨h1, h2, h3⟩ := okMv_facts h
  obtain ⟨_, hk, b1, b2, b3⟩ := h
  have hsg : ∀ c r, sgB m.kind :: vaL m = c :: r → ¬ isDg c := fun c r e => by injection e with e1 _; rw [← e1]; exact sg_dg _
  have h46 : ¬ isDg 46 := by unfold isDg; decide
  have hfirst : ∃ k, digs 0 0 (plL m ++ sgB m.kind :: vaL m) = (m.id, k) ∧ afterDot ((plL m ++ sgB m.kind :: vaL m).drop k) = (m.arg, sgB m.kind :: vaL m) := by
    unfold plL
    split
    · rename_i ha
      refine ⟨(Lib.decDigits m.id.toNat).length, ?_, ?_⟩
      · rw [digs_num _ (by omega) _ hsg]
        congr 1; omega
      · rw [List.drop_left]
        unfold afterDot
        dsimp only
        rw [if_neg (sg_46 _), ha]
    · refine ⟨(Lib.decDigits m.id.toNat).length, ?_, ?_⟩
      · rw [List.append_assoc, digs_num _ (by omega) _ (fun c r e => by injection e with e1 _; rw [← e1]; exact h46)]
        congr 1; omega
      · rw [List.append_assoc, List.drop_left]
        unfold afterDot
        show (if (46 : UInt8).toNat = 46 then ((digs 0 0 (Lib.decDigits m.arg.toNat ++ sgB m.kind :: vaL m)).1, (Lib.decDigits m.arg.toNat ++ sgB m.kind :: vaL m).drop (digs 0 0 (Lib.decDigits m.arg.toNat ++ sgB m.kind :: vaL m)).2) else _) = _
        rw [if_pos (by decide), digs_num _ (by omega) _ hsg, List.drop_left]
        congr 1
        show ((m.arg.toNat : Nat) : Int) = m.arg
        omega
  obtain ⟨k, e1, e2⟩ := hfirst
  unfold refRead
  rw [e1, e2]
  dsimp only
  have hkind : (if (sgB m.kind).toNat = 63 then (1 : Int) else if (sgB m.kind).toNat = 61 then 2 else if (sgB m.kind).toNat = 33 then 3 else 0) = m.kind := by
    rcases hk with e | e | e <;> rw [e] <;> rfl
  have hn : (if sgB m.kind :: vaL m = [33, 42] then (-1 : Int) else (digs 0 0 (vaL m)).1) = m.n := by
    have num : ∀ n : Nat, n ≤ 9223372036854775807 → (digs 0 0 (Lib.decDigits n)).1 = (n : Int) := fun n hn => by
      have := digs_num n hn [] (fun c r e => by cases e)
      rw [List.append_nil] at this
      rw [this]
    have hd42 : ∀ n : Nat, ¬ (Lib.decDigits n = [42]) := fun n e => by
      have := dec_dg n 42 (by rw [e]; simp)
      unfold isDg at this
      exact absurd this (by decide)
    rcases h3 with ⟨e, e2⟩ | ⟨e, e2⟩ | ⟨e, e2⟩
    · have hv : vaL m = [] := by unfold vaL; rw [if_pos e]
      rw [hv, if_neg (by intro e3; injection e3 with _ e4; cases e4), e2]; rfl
    · have hv : vaL m = Lib.decDigits m.n.toNat := by unfold vaL; rw [if_neg (by omega), if_neg (by omega)]
      rw [hv, if_neg (by intro e3; injection e3 with _ e4; exact hd42 _ e4), num _ (by omega)]; omega
    · rcases e2 with e2 | e2
      · have hv : vaL m = [42] := by unfold vaL; rw [if_neg (by omega), if_pos e2]
        rw [hv, e, e2]; rfl
      · have hv : vaL m = Lib.decDigits m.n.toNat := by unfold vaL; rw [if_neg (by omega), if_neg (by omega)]
        rw [hv, if_neg (by intro e3; injection e3 with _ e4; exact hd42 _ e4), num _ (by omega)]; omega
  rw [hkind, hn]
theorem num_max (s : ByteArray) : numOf s ≤ 9223372036854775807 ∧ -9223372036854775808 ≤ numOf s := by
  unfold numOf
  split
  · rename_i v h; have := Lib.atoiAll_bounds h; omega
  · unfold Lib.atoiSat; split <;> omega
  · omega
theorem read_max (s sign : ByteArray) (k : Int) : (readRes s sign k).id ≤ 9223372036854775807 ∧ (readRes s sign k).arg ≤ 9223372036854775807 ∧ (readRes s sign k).n ≤ 9223372036854775807 ∧ -9223372036854775808 ≤ (readRes s sign k).id ∧ -9223372036854775808 ≤ (readRes s sign k).arg ∧ -9223372036854775808 ≤ (readRes s sign k).n := by
  unfold readRes
  dsimp only
  have a := num_max (cut1 (cut1 s sign) ⟨#[46]⟩)
  have b := num_max (cut2 (cut1 s sign) ⟨#[46]⟩)
  have c := num_max (cut2 s sign)
  refine ⟨a.1, b.1, ?_, a.2, b.2, ?_⟩ <;> split <;> omega
theorem ok_of_text {m : Mv} {T : ByteArray} (h : textRes itx m = (T, 0)) (b1 : m.id ≤ 9223372036854775807) (b2 : m.arg ≤ 9223372036854775807) (b3 : m.n ≤ 9223372036854775807) : okMv m := by
  have hk : m.kind = 1 ∨ m.kind = 2 ∨ m.kind = 3 := by
    rcases kinds m.kind with e | e | e | ⟨e1, e2, e3⟩
    · exact .inl e
    · exact .inr (.inl e)
    · exact .inr (.inr e)
    · rw [text_bad (.inr (by unfold signOf; rw [if_neg e1, if_neg e2, if_neg e3]))] at h; cases h
  refine ⟨?_, hk, b1, b2, b3⟩
  cases hh : hasTx m with
  | true => rfl
  | false => rw [text_bad (.inl hh)] at h; cases h
theorem refRead_max {L : List UInt8} {m : Mv} (h : refRead L = some m) : m.id ≤ 9223372036854775807 ∧ m.arg ≤ 9223372036854775807 ∧ m.n ≤ 9223372036854775807 := by
  unfold refRead at h
  split at h
  · cases h
  · injection h with h
    subst h
    dsimp only
    refine ⟨digs_max _ _ _ (by omega), ?_, ?_⟩
    · unfold afterDot
      split
      · dsimp only; omega
      · split
        · exact digs_max _ _ _ (by omega)
        · dsimp only; omega
    · split
      · omega
      · exact digs_max _ _ _ (by omega)
/-- What the program may read is what the reference reads. -/
theorem prog_reads {s : ByteArray} {i : Nat} (h : okB itx s i = true) : refParse s = (kindMv s i, 0) := by
  unfold okB at h
  rw [Bool.and_eq_true] at h
  obtain ⟨h1, h2⟩ := h
  have e0 : (textRes itx (kindMv s i)).2 = 0 := by simpa using h1
  have es : (textRes itx (kindMv s i)).1 = s := by
    rw [ByteArray.toList_eq, ByteArray.toList_eq] at h2
    exact ba_ext (by simpa using h2)
  have ht : textRes itx (kindMv s i) = (s, 0) := Prod.ext es e0
  obtain ⟨b1, b2, b3, _⟩ := read_max s ((signOf ((i : Int) + 1)).getD ⟨#[]⟩) ((i : Int) + 1)
  have hok := ok_of_text ht b1 b2 b3
  have hr : refRead s.data.toList = some (kindMv s i) := by
    have := refRead_text hok
    have e2 := text_list hok
    rw [ht] at e2
    have e3 : s = ⟨(plL (kindMv s i) ++ sgB (kindMv s i).kind :: vaL (kindMv s i)).toArray⟩ := congrArg Prod.fst e2
    rw [← this]
    conv => lhs; rw [e3]
  unfold refParse
  rw [hr]
  dsimp only
  rw [if_pos ht]
theorem ref_reads {s : ByteArray} (h : ∀ i, i < 3 → okB itx s i = false) : refParse s = (zeroMv, 4) := by
  unfold refParse
  cases hr : refRead s.data.toList with
  | none => rfl
  | some m =>
    dsimp only
    by_cases ht : textRes itx m = (s, 0)
    · exfalso
      obtain ⟨b1, b2, b3⟩ := refRead_max hr
      have hok := ok_of_text ht b1 b2 b3
      have hrt := read_text hok
      rw [ht] at hrt
      dsimp only at hrt
      have key : ∀ i : Nat, i < 3 → m.kind = (i : Int) + 1 → False := fun i hi hk => by
        have hsg : (signOf ((i : Int) + 1)).getD ⟨#[]⟩ = ⟨#[sgB m.kind]⟩ := by
          rw [hk]
          match i, hi with
          | 0, _ => rfl
          | 1, _ => rfl
          | 2, _ => rfl
        have hm : kindMv s i = m := by unfold kindMv; rw [hsg, ← hk]; exact hrt
        have := h i hi
        unfold okB at this
        rw [hm, ht] at this
        simp at this
      rcases hok.2.1 with e | e | e
      · exact key 0 (by omega) (by rw [e]; rfl)
      · exact key 1 (by omega) (by rw [e]; rfl)
      · exact key 2 (by omega) (by rw [e]; rfl)
    · rw [if_neg ht]
end Go.Proofs.YtklfojmflmablaaGreatDoor
/- ArenaTexts. -/
namespace Go.Proofs.YtklfojmflmablaaGreatDoor
open Go Go.RowKit Go.Shelf

def Tab (w : World) : Prop := Lib.TabIs Tryz.prog w "internal/strconv.uint64pow10" .u64 Lib.pow10Tab
theorem Tab.later {w W : World} (h : Tab w) (hb : Below w.heap.size w W) : Tab W := Go.Joins.tab_stays (g := 1) (by kernel_rfl) h hb (Nat.le_refl _)
theorem below_gr (w : World) (k : Nat) (os : Array Obj) : Below w.heap.size w (Go.Sort.grow (w.drewN k) os) :=
  ⟨rfl, rfl, rfl, by show w.heap.size ≤ (w.heap ++ os).size; rw [Array.size_append]; omega, fun j hj => Go.Sort.heap_grow_old (w.drewN k) os hj⟩
def inI64 (n : Int) : Prop := -9223372036854775808 ≤ n ∧ n ≤ 9223372036854775807
theorem itoa_at (w : World) (h : Tab w) (n : Int) (hn : inI64 n) : ItoaAt itx w n := fun W hW => by
  refine (Tryz.strconv_Itoa n hn.1 hn.2 W (h.later hW)).mono ?_
  rintro e w' ⟨rfl, k, os, rfl⟩
  exact ⟨rfl, below_gr W k os⟩
theorem itx_any (n : Int) (hn : inI64 n) : (itx n).size ≤ 1000 := by
  unfold inI64 at hn
  unfold itx Lib.itoa
  split
  · have := dec_size n.natAbs 19 (by omega)
    simp [ByteArray.size]
    omega
  · have := dec_size n.toNat 19 (by omega)
    simp [ByteArray.size]
    omega
theorem cut_size (s sep : ByteArray) : (cut1 s sep).size ≤ s.size ∧ (cut2 s sep).size ≤ s.size := by
  unfold cut1 cut2 Lib.cut
  have e : s.data.toList.length = s.size := Array.length_toList
  split
  · constructor
    · show (List.take _ _).toArray.size ≤ _
      rw [List.size_toArray, List.length_take, e]; omega
    · show (List.drop _ _).toArray.size ≤ _
      rw [List.size_toArray, List.length_drop, e]; omega
  · constructor
    · show (s.data.toList).toArray.size ≤ _
      rw [List.size_toArray, e]; omega
    · show ([] : List UInt8).toArray.size ≤ _
      simp
theorem any_fits (s : ByteArray) (w : World) (h : Laid w) (ht : Tab w) (hs : s.size ≤ 1000) : ∀ i, i < 3 → Fits itx w s i := by
  intro i hi
  obtain ⟨sg, hsg⟩ : ∃ sg, (signOf ((i : Int) + 1)).getD ⟨#[]⟩ = sg := ⟨_, rfl⟩
  have a := cut_size s sg
  have b := cut_size (cut1 s sg) ⟨#[46]⟩
  obtain ⟨b1, b2, b3, b4, b5, b6⟩ := read_max s sg ((i : Int) + 1)
  refine ⟨fun W hW => ?_, fun W hW => ?_⟩
  · unfold kindMv
    rw [hsg]
    exact readMove_any s sg _ W (h.later hW) (by omega) (by omega) (by omega) (by omega) (by omega)
  · unfold kindMv
    rw [hsg]
    have hT := ht.later hW
    exact text_any itx _ W (itoa_at W hT _ ⟨b4, b1⟩) (itoa_at W hT _ ⟨b5, b2⟩) (itoa_at W hT _ ⟨b6, b3⟩) (itx_any _ ⟨b4, b1⟩) (itx_any _ ⟨b5, b2⟩) (itx_any _ ⟨b6, b3⟩)

set_option maxRecDepth 100000 in
set_option maxHeartbeats 1000000 in
theorem law7_long (m : Mv) (s : ByteArray) (w : World) (h : Laid w) (hs : 200 < s.size) :
    Calls Tryz.prog 7 #[mvV m, .string s] w fun e w' => e = .returned (.bool true) ∧ Below w.heap.size w w' := by
  have HB := Lib.hid ((Below.refl _ w).alloc (Nat.le_refl _) (.cells #[.int .i64 m.id, .int .i64 m.arg, .int .u8 m.kind, .int .i64 m.n] 40))
  have HLD := Lib.hid h
  have i1 : (200 : Int) < (s.size : Int) := by omega
  unfold mvV
  clear h
  go_enter Tryz.func7, Tryz.ntmps7
  go_wp2_with (go_at_call 18; refine (awake_any _ (HLD.out.later HB.out)).mono ?_; rintro e w3 ⟨rfl, hb3⟩)
  go_ret
  exact ⟨rfl, HB.out.trans (hb3.mono HB.out.size)⟩

set_option maxRecDepth 100000 in
set_option maxHeartbeats 2000000 in
theorem law7_short (m : Mv) (s : ByteArray) (w : World) (h : Laid w) (ht : Tab w) (hs : s.size ≤ 200) (c1 : inI64 m.id) (c2 : inI64 m.arg) (c3 : inI64 m.n) :
    Calls Tryz.prog 7 #[mvV m, .string s] w fun e w' => e = .returned (.bool true) ∧ Below w.heap.size w w' := by
  obtain ⟨⟨T, te⟩, hT⟩ : ∃ R, textRes itx m = R := ⟨_, rfl⟩
  obtain ⟨⟨P, pe⟩, hP⟩ : ∃ R, refParse s = R := ⟨_, rfl⟩
  have C42 : Hid (∀ W, Below w.heap.size w W → Calls Tryz.prog 42 #[mvV m] W fun e w' => e = .returned (.tuple #[.string T, .int .i64 te]) ∧ Below W.heap.size W w') := Lib.hid fun W hW => by
    have hTb := ht.later hW
    have := text_any itx m W (itoa_at W hTb _ c1) (itoa_at W hTb _ c2) (itoa_at W hTb _ c3) (itx_any _ c1) (itx_any _ c2) (itx_any _ c3)
    rwa [hT] at this
  have C44 : Hid (∀ W, Calls Tryz.prog 44 #[mvV m] W fun e w' => e = .returned (.tuple #[.string T, .int .i64 te]) ∧ Below W.heap.size W w') := Lib.hid fun W => by have := refText_any m W c1.2 c2.2 c3.2; rwa [hT] at this
  have C43 : Hid (∀ W, Below w.heap.size w W → Calls Tryz.prog 43 #[.string s] W fun e w' => e = .returned (.tuple #[mvV P, .int .i64 pe]) ∧ Below W.heap.size W w') := Lib.hid fun W hW => by
    have := parse_any itx s W (refParse s) (any_fits s W (h.later hW) (ht.later hW) (by omega)) (fun i _ hi => prog_reads hi) (fun hn => ref_reads hn)
    rwa [hP] at this
  have C45 : Hid (∀ W, Calls Tryz.prog 45 #[.string s] W fun e w' => e = .returned (.tuple #[mvV P, .int .i64 pe]) ∧ Below W.heap.size W w') := Lib.hid fun W => by have := refParse_any s W (by omega); rwa [hP] at this
  have HLD := Lib.hid h
  have g40 := guard40
  have hE : ∀ W, (binOp .eql 40 (.agg #[.int .i64 P.id, .int .i64 P.arg, .int .u8 P.kind, .int .i64 P.n]) (.agg #[.int .i64 P.id, .int .i64 P.arg, .int .u8 P.kind, .int .i64 P.n])).run Tryz.prog W = .ok (.bool true) W := fun W => by
    have := eq40 W P P; rw [decide_eq_true rfl] at this; exact this
  have i1 : ¬ ((200 : Int) < (s.size : Int)) := by omega
  have htt : (T.toList == T.toList) = true := by simp
  have hee : (te == te) = true := by simp
  have hpp : (pe == pe) = true := by simp
  obtain ⟨w1, hw1⟩ : ∃ w1, w.alloc (.cells #[.int .i64 m.id, .int .i64 m.arg, .int .u8 m.kind, .int .i64 m.n] 40) = w1 := ⟨_, rfl⟩
  have hb : Below w.heap.size w w1 := by rw [← hw1]; exact (Below.refl _ w).alloc (Nat.le_refl _) _
  have x1 : BoxM w1 w.heap.size m := by rw [← hw1]; exact BoxM.new w m
  have HB := Lib.hid hb
  have HX1 := Lib.hid x1
  obtain ⟨a0, a1, a2, a3⟩ := And.intro x1.c0 (And.intro x1.c1 (And.intro x1.c2 x1.c3))
  obtain ⟨pi, pa, pk, pn⟩ := P
  unfold mvV at *
  dsimp only at *
  clear h ht hs hT hP hb x1 c1 c2 c3
  go_enter Tryz.func7, Tryz.ntmps7
  go_wp2_with (first
    | (go_at_call 42; go_loud (refine (C42.out _ HB.out).mono ?_; rintro e w2 ⟨rfl, hb2⟩; have HB2 := Lib.hid (HB.out.trans (hb2.mono HB.out.size)); have HX2 : Hid (BoxM w2 w.heap.size m) := Lib.hid ((hb2.block _ HX1.out.lt).trans HX1.out)))
    | (go_at_call 43; go_loud (refine (C43.out _ HB2.out).mono ?_; rintro e w3 ⟨rfl, hb3⟩; obtain ⟨z3, hz3⟩ : ∃ z3, w3.alloc (.cells #[.int .i64 pi, .int .i64 pa, .int .u8 pk, .int .i64 pn] 40) = z3 := ⟨_, rfl⟩; have h3z : Below w2.heap.size w2 z3 := hb3.trans ((hz3 ▸ ((Below.refl _ w3).alloc (Nat.le_refl _) _ : Below w3.heap.size w3 _)).mono hb3.size); have HB3 : Hid (Below w.heap.size w z3) := Lib.hid (HB2.out.trans (h3z.mono HB2.out.size)); have HX3 : Hid (BoxM z3 w.heap.size m) := Lib.hid ((h3z.block _ HX2.out.lt).trans HX2.out); have HZ3 : Hid (BoxM z3 w3.heap.size ⟨pi, pa, pk, pn⟩) := Lib.hid (hz3 ▸ BoxM.new w3 ⟨pi, pa, pk, pn⟩); obtain ⟨d0, d1, d2, d3⟩ := And.intro HX3.out.c0 (And.intro HX3.out.c1 (And.intro HX3.out.c2 HX3.out.c3)); clear h3z))
    | (go_at_call 44; go_loud (refine (C44.out _).mono ?_; rintro e w4 ⟨rfl, hb4⟩; have HB4 := Lib.hid (HB3.out.trans (hb4.mono HB3.out.size)); have HZ4 : Hid (BoxM w4 w3.heap.size ⟨pi, pa, pk, pn⟩) := Lib.hid ((hb4.block _ HZ3.out.lt).trans HZ3.out)))
    | (go_at_call 45; go_loud (refine (C45.out _).mono ?_; rintro e w5 ⟨rfl, hb5⟩; obtain ⟨z5, hz5⟩ : ∃ z5, w5.alloc (.cells #[.int .i64 pi, .int .i64 pa, .int .u8 pk, .int .i64 pn] 40) = z5 := ⟨_, rfl⟩; have h5z : Below w4.heap.size w4 z5 := hb5.trans ((hz5 ▸ ((Below.refl _ w5).alloc (Nat.le_refl _) _ : Below w5.heap.size w5 _)).mono hb5.size); have HB5 : Hid (Below w.heap.size w z5) := Lib.hid (HB4.out.trans (h5z.mono HB4.out.size)); have HZ5 : Hid (BoxM z5 w3.heap.size ⟨pi, pa, pk, pn⟩) := Lib.hid ((h5z.block _ HZ4.out.lt).trans HZ4.out); have HV5 : Hid (BoxM z5 w5.heap.size ⟨pi, pa, pk, pn⟩) := Lib.hid (hz5 ▸ BoxM.new w5 ⟨pi, pa, pk, pn⟩); obtain ⟨f0, f1, f2, f3⟩ := And.intro HZ5.out.c0 (And.intro HZ5.out.c1 (And.intro HZ5.out.c2 HZ5.out.c3)); obtain ⟨g0, g1, g2, g3⟩ := And.intro HV5.out.c0 (And.intro HV5.out.c1 (And.intro HV5.out.c2 HV5.out.c3)); dsimp only at f0 f1 f2 f3 g0 g1 g2 g3; clear h5z))
    | (go_at_call 18; refine (awake_any _ (HLD.out.later HB5.out)).mono ?_; rintro e w6 ⟨rfl, hb6⟩))
  go_ret
  exact ⟨rfl, HB5.out.trans (hb6.mono HB5.out.size)⟩
theorem law7_any (m : Mv) (s : ByteArray) (w : World) (h : Laid w) (ht : Tab w) (c1 : inI64 m.id) (c2 : inI64 m.arg) (c3 : inI64 m.n) :
    Calls Tryz.prog 7 #[mvV m, .string s] w fun e w' => e = .returned (.bool true) ∧ Below w.heap.size w w' := by
  by_cases hs : 200 < s.size
  · exact law7_long m s w h hs
  · exact law7_short m s w h ht (by omega) c1 c2 c3
end Go.Proofs.YtklfojmflmablaaGreatDoor
/- A move that comes in, with its bounds; the table of powers. -/
namespace Go.Proofs.YtklfojmflmablaaGreatDoor
open Go.ChangeShapes Go.WideShapes Go.ChangeAt Go.RowKit

section
variable {H : Type} {enc : TypeId × Value → H}
set_option maxRecDepth 100000 in
theorem open_move_b {r : Reach} {W : World} {b0 base : Nat} {sp : Nat → Bool} {held : Bool} {v : Value} {d : DataW H} {ps : List MemPlace} (hval : Value.okWide Tryz.prog W r b0 40 v) (hd : DataW.Trod enc Tryz.prog W base sp held 40 v d ps) :
    ∃ m : Mv, v = mvV m ∧ inI64 m.id ∧ inI64 m.arg ∧ inI64 m.n := by
  obtain ⟨cs, rfl, hcs⟩ := okWide_struct Tryz.underlying40 hval
  obtain ⟨fuel, hf⟩ := hd
  obtain ⟨xs, n, rfl, hx, hlen, hxl, hall⟩ := DataW.trod_struct Tryz.underlying40 hf
  have c3 : Tryz.prog.cellsOf 3 = 1 := by kernel_rfl
  have c5 : Tryz.prog.cellsOf 5 = 1 := by kernel_rfl
  have c40 : Tryz.prog.cellsOf 40 = 4 := by kernel_rfl
  have hl : cs.toList.length = 4 := by rw [c40] at hcs; simpa using hcs
  obtain ⟨l⟩ := cs
  match l, hl with
  | [a, b, c, e], _ =>
    have hxl2 : xs.length = 4 := hxl
    have h0 : DataW.trod enc Tryz.prog W base sp held n 3 (List.take (Tryz.prog.cellsOf 3) (List.drop 0 [a, b, c, e])) = xs[0]? := hall 0 _ rfl
    have h1 : DataW.trod enc Tryz.prog W base sp held n 3 (List.take (Tryz.prog.cellsOf 3) (List.drop 1 [a, b, c, e])) = xs[1]? := hall 1 _ rfl
    have h2 : DataW.trod enc Tryz.prog W base sp held n 5 (List.take (Tryz.prog.cellsOf 5) (List.drop 2 [a, b, c, e])) = xs[2]? := hall 2 _ rfl
    have h3 : DataW.trod enc Tryz.prog W base sp held n 3 (List.take (Tryz.prog.cellsOf 3) (List.drop 3 [a, b, c, e])) = xs[3]? := hall 3 _ rfl
    rw [c3, List.getElem?_eq_getElem (by omega)] at h0 h1 h3
    rw [c5, List.getElem?_eq_getElem (by omega)] at h2
    obtain ⟨x0, e0, _, w0⟩ := DataW.trod_int Tryz.underlying3 h0
    obtain ⟨x1, e1, _, w1⟩ := DataW.trod_int Tryz.underlying3 h1
    obtain ⟨x2, e2, _, _⟩ := DataW.trod_int Tryz.underlying5 h2
    obtain ⟨x3, e3, _, w3⟩ := DataW.trod_int Tryz.underlying3 h3
    have e0' : [a] = [Value.int .i64 x0] := e0
    have e1' : [b] = [Value.int .i64 x1] := e1
    have e2' : [c] = [Value.int .u8 x2] := e2
    have e3' : [e] = [Value.int .i64 x3] := e3
    cases e0'
    cases e1'
    cases e2'
    cases e3'
    have q0 : IntKind.i64.min ≤ x0 ∧ x0 ≤ IntKind.i64.max := by simpa [Lit.wf] using w0
    have q1 : IntKind.i64.min ≤ x1 ∧ x1 ≤ IntKind.i64.max := by simpa [Lit.wf] using w1
    have q3 : IntKind.i64.min ≤ x3 ∧ x3 ≤ IntKind.i64.max := by simpa [Lit.wf] using w3
    exact ⟨⟨x0, x1, x2, x3⟩, rfl, q0, q1, q3⟩
end
theorem tab_of {W : World} (h : laidMetH Tryz.prog laid5 W) : Tab W := by
  rw [MakeChecks.laidMetH_plain _ _ _ (by kernel_rfl)] at h
  have h := h.tail.tail
  exact Lib.tabIs_of_head (g := 1) (t := 270) (e := 247) (n := 20) (by kernel_rfl) (by kernel_rfl) (by kernel_rfl) (by kernel_rfl) (by kernel_rfl) (by kernel_rfl) h
end Go.Proofs.YtklfojmflmablaaGreatDoor
