/- The contract of LexUndone. -/
import Derived.Test.YtjadjmkbjolklaaDoorApp
namespace Go.Proofs.YtjadjmkbjolklaaDoor
open Go.RowKit

theorem list_get' (s : ByteArray) (k : Nat) (h : k < s.size) : s.data.toList[k]? = some s[k] := by
  rw [List.getElem?_eq_getElem (by simpa using h)]
  rfl

theorem size_mk (l : List UInt8) : (⟨l.toArray⟩ : ByteArray).size = l.length := by simp [ByteArray.size]

theorem back_text {s : ByteArray} : ∀ (l : List Spl) (g : Int), ∀ x ∈ backP s g l, x.text.size ≤ s.size
  | [], g, x, h => by cases h
  | y :: r, g, x, h => by
    rw [backP] at h
    cases h with
    | head => simp only [ByteArray.size_extract]; omega
    | tail _ h => exact back_text r _ x h

/-- What the loop of LexUndone knows of places before: each byte that stays behind a place goes behind a place. -/
def UpTo (s : ByteArray) (l : List Spl) (k : Nat) (last : Int) : Prop := ∀ (a : Nat) (n : Int), k ≤ a → a < s.size → mvP s a 0 l = (n, 0) → last < n

theorem upTo_start {s : ByteArray} {l : List Spl} (h : (applyRes s l).2 = 0) : UpTo s l 0 (-1) := by
  intro a n _ hs hn
  rcases (moved_ok h (a := a) (by omega) (by omega)).2 with h7 | ⟨n', h1, h2, _⟩
  · rw [h7] at hn
    cases hn
  · rw [h1] at hn
    cases hn
    omega

theorem upTo_more {s : ByteArray} {l : List Spl} {k k' : Nat} {last : Int} (h : UpTo s l k last) (hk : k ≤ k') : UpTo s l k' last := fun a n h1 h2 h3 => h a n (by omega) h2 h3

theorem upTo_next {s : ByteArray} {l : List Spl} (h : (applyRes s l).2 = 0) {k k' : Nat} {n : Int} (hn : mvP s k 0 l = (n, 0)) (hk : k < k') : UpTo s l k' n := by
  intro a n' h1 _ h3
  exact mv_mono (apply_beh h).2.1 (by omega) (by omega) hn h3

set_option maxRecDepth 100000 in
set_option maxHeartbeats 2000000 in
theorem undone_any (s : ByteArray) (v : Value) (l : List Spl) (w : World) (hs : s.size ≤ 140737488355328) (hl : l.length * 32 ≤ 140737488355328) (ht : ∀ x ∈ l, x.text.size ≤ 140737488355328) (hv : SplIn w w.heap.size v l) (hn : NumVars w) :
    Calls Tryd.prog 14 #[.string s, v] w fun e w' => e = .returned (.bool true) ∧ Below w.heap.size w w' := by
  have HN := Lib.hid hn
  have HV := Lib.hid hv
  have HT := Lib.hid ht
  have hl1 : l.length ≤ 140737488355328 := by omega
  clear hn
  have C33 := Lib.hid (fun w (h : SplIn w w.heap.size v l) => few_any v l w hl1 ht h)
  have HB0 := Lib.hid (Below.refl w.heap.size w)
  obtain ⟨A0, c0, rfl, _⟩ := hv
  clear ht
  by_cases h30 : 3000 < s.size
  · go_enter Tryd.func14, Tryd.ntmps14
    go_wp2_with (go_at_call 17; refine (awake_any _ HN.out).mono ?_; rintro e w1 ⟨rfl, hb1⟩)
    go_ret
    exact ⟨rfl, hb1⟩
  · by_cases h40 : 40 < l.length
    · go_enter Tryd.func14, Tryd.ntmps14
      go_wp2_with (first
        | (go_at_call 33; refine (C33.out _ HV.out).mono ?_; rintro e w' ⟨b, rfl, rfl⟩; cases b)
        | (go_at_call 17; refine (awake_any _ HN.out).mono ?_; rintro e w1 ⟨rfl, hb1⟩))
      all_goals go_ret
      all_goals exact ⟨rfl, hb1⟩
    · have HL := Lib.hid hl
      by_cases he : (applyRes s l).2 = 0
      · have HE := Lib.hid he
        obtain ⟨e1, e2, e3, e4, e5⟩ := apply_beh he
        have hlen := aft_len e1
        have hal : (applyRes s l).1 = aftS s 0 l := by unfold applyRes; rw [if_neg (by rw [e1]; simp)]; rfl
        rw [← hal] at hlen
        have hul : (backP s 0 l).length = l.length := back_length s l 0
        have hut := back_text (s := s) l 0
        have HM := Lib.hid (fun (a : Int) (h0 : 0 ≤ a) (h1 : a < s.size) => moved_ok he h0 h1)
        have C34 : Hid (∀ w v, SplIn w w.heap.size v l → Calls Tryd.prog 34 #[.string s, v] w fun e w' => e = .returned (.tuple #[.string ⟨(applyRes s l).1.toArray⟩, .int .i64 0]) ∧ Below w.heap.size w w') := Lib.hid (fun w v h => by
          have h := apply_any s v l w hs hl1 HT.out h
          rw [he] at h
          exact h)
        have C38 : Hid (∀ w v, SplIn w w.heap.size v l → Calls Tryd.prog 38 #[.string s, v] w fun e w' => ∃ v', e = .returned (.tuple #[v', .int .i64 0]) ∧ Below w.heap.size w w' ∧ SplIn w' w'.heap.size v' (backP s 0 l)) := Lib.hid (fun w v h => by
          have h := undo_any s v l w hs hl1 HT.out h
          rw [e4] at h
          exact h)
        have hts : (⟨(applyRes s l).1.toArray⟩ : ByteArray).size ≤ 140737488355328 := by rw [size_mk]; omega
        have hut2 : ∀ x ∈ backP s 0 l, x.text.size ≤ 140737488355328 := fun x hx => Nat.le_trans (hut x hx) hs
        have C34b : Hid (∀ w v, SplIn w w.heap.size v (backP s 0 l) → Calls Tryd.prog 34 #[.string ⟨(applyRes s l).1.toArray⟩, v] w fun e w' => e = .returned (.tuple #[.string s, .int .i64 0]) ∧ Below w.heap.size w w') := Lib.hid (fun w v h => by
          have h := apply_any ⟨(applyRes s l).1.toArray⟩ v (backP s 0 l) w hts (by omega) hut2 h
          rw [e3, mk_list] at h
          exact h)
        have C36 := Lib.hid (fun w v (a : Int) (h : SplIn w w.heap.size v l) => moved_any s v l a w hs hl1 HT.out h)
        have C36b := Lib.hid (fun w v (a : Int) (h : SplIn w w.heap.size v (backP s 0 l)) => moved_any ⟨(applyRes s l).1.toArray⟩ v (backP s 0 l) a w hts (by omega) hut2 h)
        have HU0 := Lib.hid (upTo_start he)
        have HUN := Lib.hid (fun (k k' : Nat) (n : Int) (hn : mvP s k 0 l = (n, 0)) (hk : k < k') => upTo_next he hn hk)
        have htl := size_mk (applyRes s l).1
        have hget : ∀ (N : Nat) (k : Nat), k < s.size → N < (applyRes s l).1.length → (applyRes s l).1[N]? = s.data.toList[k]? → (⟨(applyRes s l).1.toArray⟩ : ByteArray)[N]! = s[k]! := by
          intro N k hk hN e
          rw [getBang s k hk, getBang _ N (by rw [htl]; exact hN)]
          rw [list_get' s k hk, List.getElem?_eq_getElem hN] at e
          have e' := Option.some.inj e
          rw [← e']
          rfl
        have HG := Lib.hid hget
        have hbl : ((applyRes s l).1.length : Int) ≤ 2500 := by omega
        clear e1 e2 e3 e4 e5 hal hut hut2 he hget hlen
        generalize (⟨(applyRes s l).1.toArray⟩ : ByteArray) = t at C34 C34b C36b HM htl HG hts
        rw [← htl] at hbl HM HG
        generalize backP s 0 l = u at C38 C34b C36b HM hul
        have hlu : ((u.length : Int) != l.length) = false := by simp; omega
        have HUL := Lib.hid (show u.length * 32 ≤ 140737488355328 by omega)
        have HTL := Lib.hid htl
        clear hul htl
        go_enter Tryd.func14, Tryd.ntmps14
        go_wp2_with (first
          | (go_at_call 33; refine (C33.out _ HV.out).mono ?_; rintro e w' ⟨b, rfl, rfl⟩; cases b)
          | (at_builtin; refine wpList_append_spl rfl _ _ rfl _ A0 l.length c0 l rfl rfl (HV.out.below HB0.out) HL.out ?_; intro v1 w1 hs1 hb1; have HS1 := Lib.hid hs1; have HB1 := Lib.hid (HB0.out.trans (hb1.mono HB0.out.size)); clear HB0 hs1 hb1)
          | (go_at_call 34; refine (C34.out _ _ HS1.out).mono ?_; rintro e w2 ⟨rfl, hb2⟩; have HB2 := Lib.hid (HB1.out.trans (hb2.mono HB1.out.size)); clear hb2 HB1 HS1 C34)
          | (at_builtin; refine wpList_append_spl rfl _ _ rfl _ A0 l.length c0 l rfl rfl (HV.out.below HB2.out) HL.out ?_; intro v3 w3 hs3 hb3; have HS3 := Lib.hid hs3; have HB3 := Lib.hid (HB2.out.trans (hb3.mono HB2.out.size)); clear HB2 hs3 hb3)
          | (go_at_call 38; refine (C38.out _ _ HS3.out).mono ?_; rintro e w4 ⟨v4, rfl, hb4, hs4⟩; have HB4 := Lib.hid (HB3.out.trans (hb4.mono HB3.out.size)); have HS4 := Lib.hid hs4; obtain ⟨A4, c4, rfl, _⟩ := hs4; clear hb4 HB3 HS3 C38)
          | (at_builtin; refine wpList_append_spl rfl _ _ rfl _ A4 u.length c4 u rfl rfl HS4.out HUL.out ?_; intro v5 w5 hs5 hb5; have HS5 := Lib.hid hs5; have HS4b := Lib.hid (HS4.out.below hb5); have HB5 := Lib.hid (HB4.out.trans (hb5.mono HB4.out.size)); have HBB5 := Lib.hid hb5; clear HB4 hs5 hb5)
          | (go_at_call 34; refine (C34b.out _ _ HS5.out).mono ?_; rintro e w6 ⟨rfl, hb6⟩; have HB6 := Lib.hid (HB5.out.trans (hb6.mono HB5.out.size)); have HBB6 := Lib.hid (HBB5.out.trans (hb6.mono HBB5.out.size)); clear hb6 HB5 HS5 HBB5 C34b)
          | (go_at_call 17; refine (awake_any _ HN.out).mono ?_; rintro e w7 ⟨rfl, hb7⟩))
        · go_ret
          exact ⟨rfl, hb7⟩
        go_loopw [11, 12] (fun la i wr => ∃ (k : Nat) (last : Int), k ≤ 4000 ∧ i = .int .i64 k ∧ la = .int .i64 last ∧ Hid (UpTo s l k last) ∧ Hid (Below w.heap.size w wr) ∧ Hid (Below w4.heap.size w4 wr)) (fun _ i _ => s.size - (intOf i).toNat)
        case atStart => exact ⟨0, -1, by omega, rfl, rfl, HU0, HB6, HBB6⟩
        case round =>
          obtain ⟨k, last, hk4, rfl, rfl, HU, HBW, HBB⟩ := hrel
          clear HB6 HBB6 HU0
          by_cases hlt : k < s.size
          · obtain ⟨q1, q2⟩ := HM.out (k : Int) (by omega) (by omega)
            rcases q2 with h7 | ⟨n, n1, n2, n3, n4, n5⟩
            · have C := Lib.hid (show ∀ w v, SplIn w w.heap.size v l → Calls Tryd.prog 36 #[.string s, v, .int .i64 k] w fun e w' => e = .returned (.tuple #[.int .i64 0, .int .i64 7]) ∧ Below w.heap.size w w' from fun w v h => by
                have h := C36.out w v k h
                rw [q1, h7] at h
                exact h)
              clear q1 h7
              go_wp2_with (first
                | (at_builtin; refine wpList_append_spl rfl _ _ rfl _ A0 l.length c0 l rfl rfl (HV.out.below HBW.out) HL.out ?_; intro v8 w8 hs8 hb8; have HS8 := Lib.hid hs8; have HB8 := Lib.hid (HBW.out.trans (hb8.mono HBW.out.size)); have HBB8 := Lib.hid (HBB.out.trans (hb8.mono HBB.out.size)); clear hs8 hb8 HBW HBB)
                | (go_at_call 36; refine (C.out _ _ HS8.out).mono ?_; rintro e w9 ⟨rfl, hb9⟩; have HB9 := Lib.hid (HB8.out.trans (hb9.mono HB8.out.size)); have HBB9 := Lib.hid (HBB8.out.trans (hb9.mono HBB8.out.size)); clear hb9 HB8 HBB8 HS8))
              go_roundw
              case rel => exact ⟨k + (1 + s.size / 60), last, by omega, by go_num, rfl, Lib.hid (upTo_more HU.out (by omega)), HB9, HBB9⟩
              case measure => simp [intOf]; omega
            · obtain ⟨N, rfl⟩ := Int.eq_ofNat_of_zero_le n2
              have hlast := HU.out k N (Nat.le_refl _) hlt n1
              have hN : N < t.size := by omega
              have hg := HG.out N k hlt hN (by simpa using n4)
              have HUX := Lib.hid (HUN.out k (k + (1 + s.size / 60)) N n1 (by omega))
              have C := Lib.hid (show ∀ w v, SplIn w w.heap.size v l → Calls Tryd.prog 36 #[.string s, v, .int .i64 k] w fun e w' => e = .returned (.tuple #[.int .i64 N, .int .i64 0]) ∧ Below w.heap.size w w' from fun w v h => by
                have h := C36.out w v k h
                rw [q1, n1] at h
                exact h)
              have D := Lib.hid (show ∀ w v, SplIn w w.heap.size v u → Calls Tryd.prog 36 #[.string t, v, .int .i64 N] w fun e w' => e = .returned (.tuple #[.int .i64 k, .int .i64 0]) ∧ Below w.heap.size w w' from fun w v h => by
                have h := C36b.out w v N h
                rw [n5] at h
                exact h)
              have i1 := idx9c t N hN
              have i2 := idx9c s k hlt
              rw [hg] at i1
              generalize s[k]! = x at i1 i2
              have t1 : decide ((N : Int) ≤ last) = false := by simp; omega
              have t2 : decide (t.size ≤ N) = false := by simp; omega
              have t3 : decide ((t.size : Int) ≤ (N : Int)) = false := by simp; omega
              have t4 : ((x.toNat : Int) != x.toNat) = false := by simp
              have hkk : ((k : Int) != k) = false := by simp
              clear q1 n1 n2 n3 n4 n5 hg
              go_wp2_with (first
                | (at_builtin; refine wpList_append_spl rfl _ _ rfl _ A0 l.length c0 l rfl rfl (HV.out.below HBW.out) HL.out ?_; intro v8 w8 hs8 hb8; have HS8 := Lib.hid hs8; have HB8 := Lib.hid (HBW.out.trans (hb8.mono HBW.out.size)); have HBB8 := Lib.hid (HBB.out.trans (hb8.mono HBB.out.size)); clear hs8 hb8 HBW HBB)
                | (go_at_call 36; refine (C.out _ _ HS8.out).mono ?_; rintro e w9 ⟨rfl, hb9⟩; have HB9 := Lib.hid (HB8.out.trans (hb9.mono HB8.out.size)); have HBB9 := Lib.hid (HBB8.out.trans (hb9.mono HBB8.out.size)); clear hb9 HB8 HBB8 HS8))
              go_quiet (fail)
              have HB10 := Lib.hid (below_drewN HB9.out nq)
              have HBB10 := Lib.hid (below_drewN HBB9.out nq)
              clear HB9 HBB9 t1 t2 t3 t4 i1 i2
              go_wp2_with (first
                | (at_builtin; refine wpList_append_spl rfl _ _ rfl _ A4 u.length c4 u rfl rfl (HS4.out.below HBB10.out) HUL.out ?_; intro v11 w11 hs11 hb11; have HS11 := Lib.hid hs11; have HB11 := Lib.hid (HB10.out.trans (hb11.mono HB10.out.size)); have HBB11 := Lib.hid (HBB10.out.trans (hb11.mono HBB10.out.size)); clear hs11 hb11 HB10 HBB10)
                | (go_at_call 36; refine (D.out _ _ HS11.out).mono ?_; rintro e w12 ⟨rfl, hb12⟩; have HB12 := Lib.hid (HB11.out.trans (hb12.mono HB11.out.size)); have HBB12 := Lib.hid (HBB11.out.trans (hb12.mono HBB11.out.size)); clear hb12 HB11 HBB11 HS11))
              go_roundw
              case rel => exact ⟨k + (1 + s.size / 60), N, by omega, by go_num, rfl, HUX, HB12, HBB12⟩
              case measure => simp [intOf]; omega
          · go_wp2_with (go_at_call 17; refine (awake_any _ (HN.out.keep HBW.out)).mono ?_; rintro e w7 ⟨rfl, hb7⟩)
            go_ret
            exact ⟨rfl, HBW.out.trans (hb7.mono HBW.out.size)⟩
      · have heb : ((applyRes s l).2 != 0) = true := by simpa using he
        have C34 := Lib.hid (fun w v (h : SplIn w w.heap.size v l) => apply_any s v l w hs hl1 HT.out h)
        generalize (applyRes s l).2 = e0 at heb C34
        generalize (applyRes s l).1.toArray = t0 at C34
        clear he
        go_enter Tryd.func14, Tryd.ntmps14
        go_wp2_with (first
          | (go_at_call 33; refine (C33.out _ HV.out).mono ?_; rintro e w' ⟨b, rfl, rfl⟩; cases b)
          | (at_builtin; refine wpList_append_spl rfl _ _ rfl _ A0 l.length c0 l rfl rfl (HV.out.below HB0.out) HL.out ?_; intro v1 w1 hs1 hb1; have HS1 := Lib.hid hs1; have HB1 := Lib.hid (HB0.out.trans (hb1.mono HB0.out.size)); clear HB0 hs1 hb1)
          | (go_at_call 34; refine (C34.out _ _ HS1.out).mono ?_; rintro e w2 ⟨rfl, hb2⟩; have HB2 := Lib.hid (HB1.out.trans (hb2.mono HB1.out.size)); clear hb2 HB1 HS1 C34)
          | (go_at_call 17; refine (awake_any _ (HN.out.keep HB2.out)).mono ?_; rintro e w7 ⟨rfl, hb7⟩; have HB7 := Lib.hid (HB2.out.trans (hb7.mono HB2.out.size)))
          | (go_at_call 17; refine (awake_any _ HN.out).mono ?_; rintro e w7 ⟨rfl, hb7⟩; have HB7 := Lib.hid hb7))
        all_goals go_ret
        all_goals exact ⟨rfl, HB7.out⟩
end Go.Proofs.YtjadjmkbjolklaaDoor
