/- The contract of the reference's Tight. -/
import Derived.Test.YtjadjmkbjolklaaDoorTgtG
import Derived.StillTailTactics
namespace Go.Proofs.YtjadjmkbjolklaaDoor
open Go.RowKit

theorem tgt_round {l : List Tk} {k : Nat} {x : Tk} (hx : l[k]? = some x) : tgtAt l (k + 1) = tgtAt l k ++ (sepAt l k ++ x.text.data.toList) := by
  obtain ⟨h1, rfl⟩ := List.getElem?_eq_some_iff.1 hx
  rw [tgtAt, getElem!_pos l k h1]

theorem sep_zero (l : List Tk) : sepAt l 0 = [] := by simp [sepAt]

theorem sep_glue {l : List Tk} {k : Nat} {x y : Tk} (h : 0 < k) (hy : l[k - 1]? = some y) (hx : l[k]? = some x) : sepAt l k = if glue y x = true then [32] else [] := by
  obtain ⟨h1, rfl⟩ := List.getElem?_eq_some_iff.1 hx
  obtain ⟨h2, rfl⟩ := List.getElem?_eq_some_iff.1 hy
  unfold sepAt
  rw [getElem!_pos l k h1, getElem!_pos l (k - 1) h2]
  simp [h]

theorem mk_bytes (b : ByteArray) : (⟨b.data.toList.toArray⟩ : ByteArray) = b := by
  apply ByteArray.ext
  simp

theorem tgt_bound {l : List Tk} {k : Nat} {x : Tk} {sep : List UInt8} (hlen : (tgtAt l l.length).length ≤ 140737488355328) (hx : l[k]? = some x) (hs : sepAt l k = sep) :
    (tgtAt l k).length + sep.length + x.text.size ≤ 140737488355328 := by
  have h1 := (List.getElem?_eq_some_iff.1 hx).1
  have h2 := tgtAt_le l (j := k + 1) (k := l.length) (by omega)
  rw [tgt_round hx, hs, List.length_append, List.length_append] at h2
  have : x.text.data.toList.length = x.text.size := by simp
  omega

theorem app_data (a b : ByteArray) : (a ++ b).data.toList = a.data.toList ++ b.data.toList := by simp

theorem tight_bad {l : List Tk} (h : listErr l ≠ 0) : tightRes l = ([], listErr l) := by unfold tightRes; rw [if_pos h]
theorem tight_long {l : List Tk} (h : listErr l = 0) (h2 : 2500 < (tgtAt l l.length).length) : tightRes l = ([], 5) := by unfold tightRes; rw [if_neg (by simp [h]), if_pos h2]
theorem tight_fine {l : List Tk} (h : listErr l = 0) (h2 : ¬ 2500 < (tgtAt l l.length).length) : tightRes l = (tgtAt l l.length, 0) := by unfold tightRes; rw [if_neg (by simp [h]), if_neg h2]

theorem ret_si {a b : ByteArray} {c d : Int} (h : a = b) (h' : c = d) : Ending.returned (.tuple #[.string a, .int .i64 c]) = .returned (.tuple #[.string b, .int .i64 d]) := by rw [h, h']

set_option maxRecDepth 100000 in
set_option maxHeartbeats 2000000 in
theorem refTight_any (v : Value) (l : List Tk) (w : World) (hl : l.length ≤ 140737488355328) (ht : ∀ x ∈ l, x.text.size ≤ 140737488355328) (hlen : (tgtAt l l.length).length ≤ 140737488355328) (hv : TkIn w w.heap.size v l) :
    Calls Tryd.prog 29 #[v] w fun e w' => e = .returned (.tuple #[.string ⟨(tightRes l).1.toArray⟩, .int .i64 (tightRes l).2]) ∧ Below w.heap.size w w' := by
  have C64 := Lib.hid (tokensError_any v l w hl ht hv)
  have HLN := Lib.hid hlen
  obtain ⟨A, c, rfl, hA⟩ := hv
  have HA := Lib.hid hA
  clear ht hA hlen
  by_cases he : listErr l = 0
  · have HE := Lib.hid he
    rw [he] at C64
    clear he
    go_enter Tryd.func29, Tryd.ntmps29
    go_wp2_with (go_at_call 64; refine C64.out.mono ?_; rintro e w1 ⟨rfl, hb1⟩; have HB1 := Lib.hid hb1; clear hb1)
    go_loopw [5, 6] (fun o i wr => ∃ (k : Nat) (done : ByteArray), k ≤ l.length ∧ i = .int .i64 k ∧ o = .string done ∧ Hid (done.data.toList = tgtAt l k) ∧ Hid (Below w.heap.size w wr)) (fun _ i _ => l.length - (intOf i).toNat)
    case atStart => exact ⟨0, _, by omega, rfl, rfl, Lib.hid rfl, HB1⟩
    case round =>
      obtain ⟨k, done, hk, rfl, rfl, HD, HB⟩ := hrel
      by_cases hlt : k < l.length
      · obtain ⟨x, hx⟩ : ∃ x, l[k]? = some x := ⟨_, List.getElem?_eq_getElem hlt⟩
        obtain ⟨b, off, hAe, hB, g1, g2, g3⟩ := HA.out k x hx
        subst hAe
        have HX := Lib.hid hx
        have d1 := (HB.out.cell (p := ⟨b, _, none⟩) hB).trans g1
        have d2 := (HB.out.cell (p := ⟨b, _, none⟩) hB).trans g2
        have d3 := (HB.out.cell (p := ⟨b, _, none⟩) hB).trans g3
        by_cases h0 : k = 0
        · have HS := Lib.hid (show sepAt l k = [] by rw [h0]; exact sep_zero l)
          have t1 : decide ((0 : Int) < k) = false := by simp; omega
          have t1n : decide (0 < k) = false := by simp; omega
          have hz : done.size + x.text.size ≤ 140737488355328 := by have := tgt_bound HLN.out hx HS.out; rw [← HD.out] at this; simpa using this
          clear g1 g3 hx d1 d3 h0
          go_wp2_with fail
          go_quiet (fail)
          go_wp2_with fail
          go_roundw
          case rel =>
            refine ⟨k + 1, _, by omega, by go_num, rfl, Lib.hid ?_, Lib.hid (below_drewN HB.out _)⟩
            rw [app_data, HD.out, tgt_round HX.out, HS.out]
            rfl
          case measure => simp [intOf]; omega
        · obtain ⟨n, hn⟩ : ∃ n, n = k - 1 := ⟨_, rfl⟩
          have hnk : n < l.length := by omega
          obtain ⟨y, hy⟩ : ∃ y, l[n]? = some y := ⟨_, List.getElem?_eq_getElem hnk⟩
          obtain ⟨b', off', hAe, hB', q1, q2, q3⟩ := HA.out n y hy
          cases hAe
          have e1 := (HB.out.cell (p := ⟨b, _, none⟩) hB).trans q1
          have e2 := (HB.out.cell (p := ⟨b, _, none⟩) hB).trans q2
          have e3 := (HB.out.cell (p := ⟨b, _, none⟩) hB).trans q3
          have HS := Lib.hid (sep_glue (by omega) (by rw [← hn]; exact hy) hx)
          have w1 : IntKind.i64.wrap ((k : Int) - 1) = n := by rw [IntKind.wrap_i64]; omega
          have t1 : decide ((0 : Int) < k) = true := by simp; omega
          have t1n : decide (0 < k) = true := by simp; omega
          have C65 := Lib.hid (apart_any y x)
          have HZ : Hid (done.size + (if glue y x = true then [(32 : UInt8)] else []).length + x.text.size ≤ 140737488355328) := Lib.hid (by have := tgt_bound HLN.out hx HS.out; rw [← HD.out] at this; simpa using this)
          have H0 := Lib.hid h0
          clear g1 g2 g3 q1 q2 q3 hx hy hn h0
          generalize glue y x = g at HS C65 HZ
          go_wp2_with fail
          have HBD := Lib.hid HB.out.drew
          have d2d : wr.drew.cell? ⟨b, off + k * 3 + 1, none⟩ = some (.string x.text) := d2
          go_still_tail 12, (by kernel_rfl)
          change wpList _ _ _ _ _ wr.drew
          clear d1 d2 d3 e1 e2 e3
          generalize wr.drew = wd at HBD d2d ⊢
          cases g
          · have hz : done.size + x.text.size ≤ 140737488355328 := by have := HZ.out; simpa using this
            go_wp2_with (go_at_call 65; refine (C65.out _).mono ?_; rintro e w2 ⟨rfl, hb2⟩; have HB2 := Lib.hid (HBD.out.trans (hb2.mono HBD.out.size)); have f2 := (HB2.out.cell (p := ⟨b, _, none⟩) hB).trans ((HBD.out.cell (p := ⟨b, _, none⟩) hB).symm.trans d2d); clear hb2 d2d)
            go_roundw
            case rel =>
              refine ⟨k + 1, _, by omega, by go_num, rfl, Lib.hid ?_, HB2⟩
              rw [app_data, HD.out, tgt_round HX.out, HS.out]
              rfl
            case measure => simp [intOf]; omega
          · have hz : done.size + 1 + x.text.size ≤ 140737488355328 := by have := HZ.out; simpa using this
            have hz1 : (done ++ ⟨#[32]⟩).size = done.size + 1 := by rw [ByteArray.size_append]; rfl
            have hz2 : (⟨#[32]⟩ : ByteArray).size = 1 := rfl
            go_wp2_with (go_at_call 65; refine (C65.out _).mono ?_; rintro e w2 ⟨rfl, hb2⟩; have HB2 := Lib.hid (HBD.out.trans (hb2.mono HBD.out.size)); have f2 := (HB2.out.cell (p := ⟨b, _, none⟩) hB).trans ((HBD.out.cell (p := ⟨b, _, none⟩) hB).symm.trans d2d); clear hb2 d2d)
            go_roundw
            case rel =>
              refine ⟨k + 1, _, by omega, by go_num, rfl, Lib.hid ?_, HB2⟩
              rw [app_data, app_data, HD.out, tgt_round HX.out, HS.out]
              simp
            case measure => simp [intOf]; omega
      · have hkl : k = l.length := by omega
        subst hkl
        have HS : Hid (done.size = (tgtAt l l.length).length) := Lib.hid (by rw [← HD.out]; simp)
        have hsz : done.size ≤ 140737488355328 := by rw [HS.out]; exact HLN.out
        by_cases h25 : 2500 < done.size
        · have HR := Lib.hid (tight_long HE.out (by rw [← HS.out]; exact h25))
          go_wp2_with fail
          go_ret2
          rw [HR.out]
          exact ⟨rfl, HB.out⟩
        · have HR := Lib.hid (tight_fine HE.out (by rw [← HS.out]; exact h25))
          go_wp2_with fail
          go_ret2
          rw [HR.out]
          exact ⟨ret_si (by rw [← HD.out, mk_bytes]) rfl, HB.out⟩
  · have HR := Lib.hid (tight_bad he)
    have heb : (listErr l != 0) = true := by simpa using he
    generalize listErr l = e0 at C64 HR heb
    clear he
    go_enter Tryd.func29, Tryd.ntmps29
    go_wp2_with (go_at_call 64; refine C64.out.mono ?_; rintro e w1 ⟨rfl, hb1⟩; have HB1 := Lib.hid hb1; clear hb1)
    go_ret2
    rw [HR.out]
    exact ⟨rfl, HB1.out⟩
end Go.Proofs.YtjadjmkbjolklaaDoor
