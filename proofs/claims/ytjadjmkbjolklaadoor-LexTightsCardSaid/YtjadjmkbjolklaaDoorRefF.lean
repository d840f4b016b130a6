/- The contract of the reference's Diff. -/
import Derived.Test.YtjadjmkbjolklaaDoorDiffed
import Derived.Test.YtjadjmkbjolklaaDoorRefE
import Derived.Test.YtjadjmkbjolklaaDoorRefB
namespace Go.Proofs.YtjadjmkbjolklaaDoor
open Go.RowKit

theorem list_get (s : ByteArray) (k : Nat) (h : k < s.size) : s.data.toList[k]? = some s[k] := by
  rw [List.getElem?_eq_getElem (by simpa using h)]
  rfl

theorem idx9 (s : ByteArray) (k : Nat) (h : k < s.size) (w : World) : (Instr.index 9 (.string s) (.int .i64 k)).run Tryd.prog w = .ok (.int .u8 s[k].toNat) w := by
  simp [Instr.index, go_sem, h]

theorem idx9b (s : ByteArray) (k : Nat) (h : k < s.size) (w : World) : (Instr.index 9 (.string s) (.int .i64 k)).run Tryd.prog w = .ok (.int .u8 (s[k]!).toNat) w := by
  rw [getBang s k h]
  exact idx9 s k h w

theorem rev_get (s : ByteArray) (k n : Nat) (h : n < s.size - k) : (s.data.toList.drop k).reverse[n]? = some (s[s.size - 1 - n]!) := by
  have hl : (s.data.toList.drop k).length = s.size - k := by simp
  rw [List.getElem?_reverse (by rw [hl]; exact h), hl, List.getElem?_drop, show k + (s.size - k - 1 - n) = s.size - 1 - n by omega, getBang s _ (by omega), list_get s _ (by omega)]

theorem spl_new' (w : World) (x : Spl) : SplIn (w.alloc (.cells #[.int .i64 x.from_, .int .i64 x.to_, .string x.text] 56)) (w.alloc (.cells #[.int .i64 x.from_, .int .i64 x.to_, .string x.text] 56)).heap.size (.slice (some ⟨w.heap.size, 0, none⟩) 1 1) [x] := by
  rw [World.size_alloc]
  exact spl_new w x

theorem diffSpl_at {a b : ByteArray} {k n : Nat} (hf : headP a.data.toList b.data.toList = k) (hd : headP (a.data.toList.drop k).reverse (b.data.toList.drop k).reverse = n) : diffSpl a b = ⟨k, (a.size : Int) - n, b.extract k (b.size - n)⟩ := by
  unfold diffSpl
  simp only [hf, hd]

def dn (a b : ByteArray) (k : Nat) : Nat := headP (a.data.toList.drop k).reverse (b.data.toList.drop k).reverse

set_option maxRecDepth 100000 in
set_option maxHeartbeats 2000000 in
theorem refDiff_any (a b : ByteArray) (w : World) (ha : a.size ≤ 140737488355328) (hb : b.size ≤ 140737488355328) :
    Calls Tryd.prog 42 #[.string a, .string b] w fun e w' => ∃ v, e = .returned (.tuple #[v, .int .i64 (diffRes a b).2]) ∧ Below w.heap.size w w' ∧ SplIn w' w'.heap.size v (diffRes a b).1 := by
  have C51 := Lib.hid (fun (s : ByteArray) (w : World) (hs : s.size ≤ 140737488355328) => refTextError_any s w hs)
  by_cases hea : (textErr a).2 = 0
  · have HEA := Lib.hid hea
    have heab : ((textErr a).2 != 0) = false := by simpa using hea
    clear hea
    by_cases heb : (textErr b).2 = 0
    · have HEB := Lib.hid heb
      have hebb : ((textErr b).2 != 0) = false := by simpa using heb
      clear heb
      by_cases hab : a = b
      · have HR := Lib.hid (show diffRes a b = ([], 0) by unfold diffRes; rw [if_neg (by rw [HEA.out]; simp), if_neg (by rw [HEB.out]; simp), if_pos hab])
        have habb : (a.toList == b.toList) = true := by rw [toList_beq]; simpa using hab
        clear hab
        go_enter Tryd.func42, Tryd.ntmps42
        go_wp2_with (go_at_call 51; refine (C51.out _ _ (by assumption)).mono ?_; rintro e w' ⟨rfl, rfl⟩)
        go_ret2
        rw [HR.out]
        exact ⟨_, rfl, Below.refl _ _, splIn_nil _ _⟩
      · have HAB := Lib.hid hab
        have habb : (a.toList == b.toList) = false := by rw [toList_beq]; simpa using hab
        have HR := Lib.hid (show diffRes a b = ([diffSpl a b], 0) by unfold diffRes; rw [if_neg (by rw [HEA.out]; simp), if_neg (by rw [HEB.out]; simp), if_neg hab])
        clear hab
        go_enter Tryd.func42, Tryd.ntmps42
        go_wp2_with (go_at_call 51; refine (C51.out _ _ (by assumption)).mono ?_; rintro e w' ⟨rfl, rfl⟩)
        have hs : headP a.data.toList b.data.toList = 0 + headP (a.data.toList.drop 0) (b.data.toList.drop 0) := by simp
        have HS := Lib.hid hs
        clear hs
        go_loopw [10] (fun i wr => ∃ k : Nat, k ≤ a.size ∧ k ≤ b.size ∧ i = .int .i64 k ∧ Hid (headP a.data.toList b.data.toList = k + headP (a.data.toList.drop k) (b.data.toList.drop k)) ∧ Below w.heap.size w wr) (fun i _ => a.size - (intOf i).toNat)
        case atStart => exact ⟨0, by omega, by omega, rfl, HS, Below.refl _ _⟩
        case round =>
          obtain ⟨k, hka, hkb, rfl, HK, hbe⟩ := hrel
          clear HS
          by_cases hin : k < a.size ∧ k < b.size ∧ a[k]! = b[k]!
          · obtain ⟨h1, h2, hxy⟩ := hin
            rw [getBang a k h1, getBang b k h2] at hxy
            have hi1 := idx9 a k h1
            have hi2 := idx9 b k h2
            have HX := Lib.hid (list_get a k h1)
            have HY := Lib.hid (list_get b k h2)
            generalize a[k] = x at hi1 hxy HX
            generalize b[k] = y at hi2 hxy HY
            have hbq : ((x.toNat : Int) == y.toNat) = true := by rw [hxy]; simp
            have HXY := Lib.hid hxy
            clear hxy
            go_wp2_with fail
            go_quiet (fail)
            go_wp2
            refine ⟨⟨k + 1, by omega, by omega, by go_num, Lib.hid ?_, below_drewN hbe _⟩, by simp [intOf]; omega⟩
            rw [HK.out, headP_step _ _ k x y HX.out HY.out, if_pos HXY.out]
            omega
          · have hf : headP a.data.toList b.data.toList = k := by
              rw [HK.out]
              have e : headP (a.data.toList.drop k) (b.data.toList.drop k) = 0 := by
                by_cases h1 : k < a.size
                · by_cases h2 : k < b.size
                  · rw [headP_step _ _ k _ _ (list_get a k h1) (list_get b k h2), if_neg (fun e => hin ⟨h1, h2, by rw [getBang a k h1, getBang b k h2]; exact e⟩)]
                  · exact headP_end _ _ k (.inr (by simp; omega))
                · exact headP_end _ _ k (.inl (by simp; omega))
              omega
            have HF := Lib.hid hf
            clear hf HK
            have hs2 : dn a b k = 0 + headP ((a.data.toList.drop k).reverse.drop 0) ((b.data.toList.drop k).reverse.drop 0) := by unfold dn; simp
            have HS2 := Lib.hid hs2
            clear hs2
            by_cases h1 : k < a.size
            · by_cases h2 : k < b.size
              · have hi1 := idx9 a k h1
                have hi2 := idx9 b k h2
                have hbq : ((a[k].toNat : Int) == b[k].toNat) = false := by
                  rw [beq_eq_false_iff_ne]
                  intro e
                  exact hin ⟨h1, h2, by rw [getBang a k h1, getBang b k h2]; exact UInt8.toNat_inj.1 (by omega)⟩
                generalize a[k] = x at hi1 hbq
                generalize b[k] = y at hi2 hbq
                clear hin
                go_wp2_with fail
                go_quiet (fail)
                clear hi1 hi2 hbq
                go_wp2
                go_loopw [11] (fun e wr => ∃ n : Nat, k + n ≤ a.size ∧ k + n ≤ b.size ∧ e = .int .i64 n ∧ Hid (dn a b k = n + headP ((a.data.toList.drop k).reverse.drop n) ((b.data.toList.drop k).reverse.drop n)) ∧ Below w.heap.size w wr) (fun e _ => a.size - (intOf e).toNat)
                case atStart => exact ⟨0, by omega, by omega, rfl, HS2, below_drewN hbe _⟩
                case round =>
                  clear hbe
                  obtain ⟨n, hna, hnb, rfl, HN, hb3⟩ := hrel
                  have w0 : IntKind.i64.wrap ((a.size : Int) - k) = (a.size : Int) - k := by rw [IntKind.wrap_i64]; omega
                  have w0' : IntKind.i64.wrap ((b.size : Int) - k) = (b.size : Int) - k := by rw [IntKind.wrap_i64]; omega
                  have w1 : IntKind.i64.wrap ((a.size : Int) - 1) = (a.size : Int) - 1 := by rw [IntKind.wrap_i64]; omega
                  have w1' : IntKind.i64.wrap ((b.size : Int) - 1) = (b.size : Int) - 1 := by rw [IntKind.wrap_i64]; omega
                  by_cases g1 : n < a.size - k
                  · have t1 : decide ((n : Int) < (a.size : Int) - k) = true := by simp; omega
                    by_cases g2 : n < b.size - k
                    · have t2 : decide ((n : Int) < (b.size : Int) - k) = true := by simp; omega
                      have HX := Lib.hid (rev_get a k n g1)
                      have HY := Lib.hid (rev_get b k n g2)
                      have i1 := idx9b a (a.size - 1 - n) (by omega)
                      have i2 := idx9b b (b.size - 1 - n) (by omega)
                      generalize a[a.size - 1 - n]! = x at i1 HX
                      generalize b[b.size - 1 - n]! = y at i2 HY
                      obtain ⟨m, hm⟩ : ∃ m, m = a.size - 1 - n := ⟨_, rfl⟩
                      obtain ⟨m', hm'⟩ : ∃ m, m = b.size - 1 - n := ⟨_, rfl⟩
                      rw [← hm] at i1
                      rw [← hm'] at i2
                      have w2 : IntKind.i64.wrap ((a.size : Int) - 1 - n) = m := by rw [IntKind.wrap_i64]; omega
                      have w2' : IntKind.i64.wrap ((b.size : Int) - 1 - n) = m' := by rw [IntKind.wrap_i64]; omega
                      clear hm hm'
                      by_cases hxy : x = y
                      · have hbq : ((x.toNat : Int) == y.toNat) = true := by rw [hxy]; simp
                        have HXY := Lib.hid hxy
                        clear hxy
                        go_wp2_with fail
                        go_quiet (fail)
                        go_wp2
                        refine ⟨⟨n + 1, by omega, by omega, by go_num, Lib.hid ?_, below_drewN hb3 _⟩, by simp [intOf]; omega⟩
                        rw [HN.out, headP_step _ _ n x y HX.out HY.out, if_pos HXY.out]
                        omega
                      · have hbq : ((x.toNat : Int) == y.toNat) = false := by rw [beq_eq_false_iff_ne]; intro e; exact hxy (UInt8.toNat_inj.1 (by omega))
                        have HD := Lib.hid (diffSpl_at HF.out (show _ = n by have h := HN.out; rw [headP_step _ _ n x y HX.out HY.out, if_neg hxy] at h; exact h))
                        clear hxy
                        go_wp2_with fail
                        go_quiet (fail)
                        first
                          | (exfalso; omega)
                          | (go_wp2
                             go_ret2
                             rw [HR.out, HD.out]
                             exact ⟨_, rfl, (below_drewN hb3 _).alloc (below_drewN hb3 _).size _, spl_new' _ ⟨k, (a.size : Int) - n, b.extract k (b.size - n)⟩⟩)
                    · have t2 : decide ((n : Int) < (b.size : Int) - k) = false := by simp; omega
                      have HD := Lib.hid (diffSpl_at HF.out (show _ = n by have h := HN.out; rw [headP_end _ _ n (.inr (by simp; omega))] at h; exact h))
                      go_wp2_with fail
                      go_quiet (fail)
                      first
                        | (exfalso; omega)
                        | (go_wp2
                           go_ret2
                           rw [HR.out, HD.out]
                           exact ⟨_, rfl, (below_drewN hb3 _).alloc (below_drewN hb3 _).size _, spl_new' _ ⟨k, (a.size : Int) - n, b.extract k (b.size - n)⟩⟩)
                  · have t1 : decide ((n : Int) < (a.size : Int) - k) = false := by simp; omega
                    have HD := Lib.hid (diffSpl_at HF.out (show _ = n by have h := HN.out; rw [headP_end _ _ n (.inl (by simp; omega))] at h; exact h))
                    go_wp2_with fail
                    go_quiet (fail)
                    first
                      | (exfalso; omega)
                      | (go_wp2
                         go_ret2
                         rw [HR.out, HD.out]
                         exact ⟨_, rfl, (below_drewN hb3 _).alloc (below_drewN hb3 _).size _, spl_new' _ ⟨k, (a.size : Int) - n, b.extract k (b.size - n)⟩⟩)
              · clear hin
                go_wp2_with fail
                go_quiet (fail)
                go_wp2
                go_loopw [11] (fun e wr => ∃ n : Nat, k + n ≤ a.size ∧ k + n ≤ b.size ∧ e = .int .i64 n ∧ Hid (dn a b k = n + headP ((a.data.toList.drop k).reverse.drop n) ((b.data.toList.drop k).reverse.drop n)) ∧ Below w.heap.size w wr) (fun e _ => a.size - (intOf e).toNat)
                case atStart => exact ⟨0, by omega, by omega, rfl, HS2, below_drewN hbe _⟩
                case round =>
                  clear hbe
                  obtain ⟨n, hna, hnb, rfl, HN, hb3⟩ := hrel
                  have w0 : IntKind.i64.wrap ((a.size : Int) - k) = (a.size : Int) - k := by rw [IntKind.wrap_i64]; omega
                  have w0' : IntKind.i64.wrap ((b.size : Int) - k) = (b.size : Int) - k := by rw [IntKind.wrap_i64]; omega
                  have w1 : IntKind.i64.wrap ((a.size : Int) - 1) = (a.size : Int) - 1 := by rw [IntKind.wrap_i64]; omega
                  have w1' : IntKind.i64.wrap ((b.size : Int) - 1) = (b.size : Int) - 1 := by rw [IntKind.wrap_i64]; omega
                  by_cases g1 : n < a.size - k
                  · have t1 : decide ((n : Int) < (a.size : Int) - k) = true := by simp; omega
                    by_cases g2 : n < b.size - k
                    · have t2 : decide ((n : Int) < (b.size : Int) - k) = true := by simp; omega
                      have HX := Lib.hid (rev_get a k n g1)
                      have HY := Lib.hid (rev_get b k n g2)
                      have i1 := idx9b a (a.size - 1 - n) (by omega)
                      have i2 := idx9b b (b.size - 1 - n) (by omega)
                      generalize a[a.size - 1 - n]! = x at i1 HX
                      generalize b[b.size - 1 - n]! = y at i2 HY
                      obtain ⟨m, hm⟩ : ∃ m, m = a.size - 1 - n := ⟨_, rfl⟩
                      obtain ⟨m', hm'⟩ : ∃ m, m = b.size - 1 - n := ⟨_, rfl⟩
                      rw [← hm] at i1
                      rw [← hm'] at i2
                      have w2 : IntKind.i64.wrap ((a.size : Int) - 1 - n) = m := by rw [IntKind.wrap_i64]; omega
                      have w2' : IntKind.i64.wrap ((b.size : Int) - 1 - n) = m' := by rw [IntKind.wrap_i64]; omega
                      clear hm hm'
                      by_cases hxy : x = y
                      · have hbq : ((x.toNat : Int) == y.toNat) = true := by rw [hxy]; simp
                        have HXY := Lib.hid hxy
                        clear hxy
                        go_wp2_with fail
                        go_quiet (fail)
                        go_wp2
                        refine ⟨⟨n + 1, by omega, by omega, by go_num, Lib.hid ?_, below_drewN hb3 _⟩, by simp [intOf]; omega⟩
                        rw [HN.out, headP_step _ _ n x y HX.out HY.out, if_pos HXY.out]
                        omega
                      · have hbq : ((x.toNat : Int) == y.toNat) = false := by rw [beq_eq_false_iff_ne]; intro e; exact hxy (UInt8.toNat_inj.1 (by omega))
                        have HD := Lib.hid (diffSpl_at HF.out (show _ = n by have h := HN.out; rw [headP_step _ _ n x y HX.out HY.out, if_neg hxy] at h; exact h))
                        clear hxy
                        go_wp2_with fail
                        go_quiet (fail)
                        first
                          | (exfalso; omega)
                          | (go_wp2
                             go_ret2
                             rw [HR.out, HD.out]
                             exact ⟨_, rfl, (below_drewN hb3 _).alloc (below_drewN hb3 _).size _, spl_new' _ ⟨k, (a.size : Int) - n, b.extract k (b.size - n)⟩⟩)
                    · have t2 : decide ((n : Int) < (b.size : Int) - k) = false := by simp; omega
                      have HD := Lib.hid (diffSpl_at HF.out (show _ = n by have h := HN.out; rw [headP_end _ _ n (.inr (by simp; omega))] at h; exact h))
                      go_wp2_with fail
                      go_quiet (fail)
                      first
                        | (exfalso; omega)
                        | (go_wp2
                           go_ret2
                           rw [HR.out, HD.out]
                           exact ⟨_, rfl, (below_drewN hb3 _).alloc (below_drewN hb3 _).size _, spl_new' _ ⟨k, (a.size : Int) - n, b.extract k (b.size - n)⟩⟩)
                  · have t1 : decide ((n : Int) < (a.size : Int) - k) = false := by simp; omega
                    have HD := Lib.hid (diffSpl_at HF.out (show _ = n by have h := HN.out; rw [headP_end _ _ n (.inl (by simp; omega))] at h; exact h))
                    go_wp2_with fail
                    go_quiet (fail)
                    first
                      | (exfalso; omega)
                      | (go_wp2
                         go_ret2
                         rw [HR.out, HD.out]
                         exact ⟨_, rfl, (below_drewN hb3 _).alloc (below_drewN hb3 _).size _, spl_new' _ ⟨k, (a.size : Int) - n, b.extract k (b.size - n)⟩⟩)
            · clear hin
              go_wp2_with fail
              go_quiet (fail)
              go_wp2
              go_loopw [11] (fun e wr => ∃ n : Nat, k + n ≤ a.size ∧ k + n ≤ b.size ∧ e = .int .i64 n ∧ Hid (dn a b k = n + headP ((a.data.toList.drop k).reverse.drop n) ((b.data.toList.drop k).reverse.drop n)) ∧ Below w.heap.size w wr) (fun e _ => a.size - (intOf e).toNat)
              case atStart => exact ⟨0, by omega, by omega, rfl, HS2, below_drewN hbe _⟩
              case round =>
                clear hbe
                obtain ⟨n, hna, hnb, rfl, HN, hb3⟩ := hrel
                have w0 : IntKind.i64.wrap ((a.size : Int) - k) = (a.size : Int) - k := by rw [IntKind.wrap_i64]; omega
                have w0' : IntKind.i64.wrap ((b.size : Int) - k) = (b.size : Int) - k := by rw [IntKind.wrap_i64]; omega
                have w1 : IntKind.i64.wrap ((a.size : Int) - 1) = (a.size : Int) - 1 := by rw [IntKind.wrap_i64]; omega
                have w1' : IntKind.i64.wrap ((b.size : Int) - 1) = (b.size : Int) - 1 := by rw [IntKind.wrap_i64]; omega
                by_cases g1 : n < a.size - k
                · have t1 : decide ((n : Int) < (a.size : Int) - k) = true := by simp; omega
                  by_cases g2 : n < b.size - k
                  · have t2 : decide ((n : Int) < (b.size : Int) - k) = true := by simp; omega
                    have HX := Lib.hid (rev_get a k n g1)
                    have HY := Lib.hid (rev_get b k n g2)
                    have i1 := idx9b a (a.size - 1 - n) (by omega)
                    have i2 := idx9b b (b.size - 1 - n) (by omega)
                    generalize a[a.size - 1 - n]! = x at i1 HX
                    generalize b[b.size - 1 - n]! = y at i2 HY
                    obtain ⟨m, hm⟩ : ∃ m, m = a.size - 1 - n := ⟨_, rfl⟩
                    obtain ⟨m', hm'⟩ : ∃ m, m = b.size - 1 - n := ⟨_, rfl⟩
                    rw [← hm] at i1
                    rw [← hm'] at i2
                    have w2 : IntKind.i64.wrap ((a.size : Int) - 1 - n) = m := by rw [IntKind.wrap_i64]; omega
                    have w2' : IntKind.i64.wrap ((b.size : Int) - 1 - n) = m' := by rw [IntKind.wrap_i64]; omega
                    clear hm hm'
                    by_cases hxy : x = y
                    · have hbq : ((x.toNat : Int) == y.toNat) = true := by rw [hxy]; simp
                      have HXY := Lib.hid hxy
                      clear hxy
                      go_wp2_with fail
                      go_quiet (fail)
                      go_wp2
                      refine ⟨⟨n + 1, by omega, by omega, by go_num, Lib.hid ?_, below_drewN hb3 _⟩, by simp [intOf]; omega⟩
                      rw [HN.out, headP_step _ _ n x y HX.out HY.out, if_pos HXY.out]
                      omega
                    · have hbq : ((x.toNat : Int) == y.toNat) = false := by rw [beq_eq_false_iff_ne]; intro e; exact hxy (UInt8.toNat_inj.1 (by omega))
                      have HD := Lib.hid (diffSpl_at HF.out (show _ = n by have h := HN.out; rw [headP_step _ _ n x y HX.out HY.out, if_neg hxy] at h; exact h))
                      clear hxy
                      go_wp2_with fail
                      go_quiet (fail)
                      first
                        | (exfalso; omega)
                        | (go_wp2
                           go_ret2
                           rw [HR.out, HD.out]
                           exact ⟨_, rfl, (below_drewN hb3 _).alloc (below_drewN hb3 _).size _, spl_new' _ ⟨k, (a.size : Int) - n, b.extract k (b.size - n)⟩⟩)
                  · have t2 : decide ((n : Int) < (b.size : Int) - k) = false := by simp; omega
                    have HD := Lib.hid (diffSpl_at HF.out (show _ = n by have h := HN.out; rw [headP_end _ _ n (.inr (by simp; omega))] at h; exact h))
                    go_wp2_with fail
                    go_quiet (fail)
                    first
                      | (exfalso; omega)
                      | (go_wp2
                         go_ret2
                         rw [HR.out, HD.out]
                         exact ⟨_, rfl, (below_drewN hb3 _).alloc (below_drewN hb3 _).size _, spl_new' _ ⟨k, (a.size : Int) - n, b.extract k (b.size - n)⟩⟩)
                · have t1 : decide ((n : Int) < (a.size : Int) - k) = false := by simp; omega
                  have HD := Lib.hid (diffSpl_at HF.out (show _ = n by have h := HN.out; rw [headP_end _ _ n (.inl (by simp; omega))] at h; exact h))
                  go_wp2_with fail
                  go_quiet (fail)
                  first
                    | (exfalso; omega)
                    | (go_wp2
                       go_ret2
                       rw [HR.out, HD.out]
                       exact ⟨_, rfl, (below_drewN hb3 _).alloc (below_drewN hb3 _).size _, spl_new' _ ⟨k, (a.size : Int) - n, b.extract k (b.size - n)⟩⟩)
    · have HR := Lib.hid (show diffRes a b = ([], (textErr b).2) by unfold diffRes; rw [if_neg (by rw [HEA.out]; simp), if_pos heb])
      have hebb : ((textErr b).2 != 0) = true := by simpa using heb
      clear heb
      go_enter Tryd.func42, Tryd.ntmps42
      go_wp2_with (go_at_call 51; refine (C51.out _ _ (by assumption)).mono ?_; rintro e w' ⟨rfl, rfl⟩)
      go_ret2
      rw [HR.out]
      exact ⟨_, rfl, Below.refl _ _, splIn_nil _ _⟩
  · have HR := Lib.hid (show diffRes a b = ([], (textErr a).2) by unfold diffRes; rw [if_pos hea])
    have heab : ((textErr a).2 != 0) = true := by simpa using hea
    clear hea
    go_enter Tryd.func42, Tryd.ntmps42
    go_wp2_with (go_at_call 51; refine (C51.out _ _ (by assumption)).mono ?_; rintro e w' ⟨rfl, rfl⟩)
    go_ret2
    rw [HR.out]
    exact ⟨_, rfl, Below.refl _ _, splIn_nil _ _⟩
end Go.Proofs.YtjadjmkbjolklaaDoor
