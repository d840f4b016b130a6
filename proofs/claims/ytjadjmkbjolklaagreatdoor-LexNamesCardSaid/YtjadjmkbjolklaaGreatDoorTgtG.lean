/- The contract of lex.listError. -/
import Derived.Test.YtjadjmkbjolklaaGreatDoorTgtF
namespace Go.Proofs.YtjadjmkbjolklaaGreatDoor
open Go.RowKit

set_option maxRecDepth 100000 in
set_option maxHeartbeats 1000000 in
theorem wrong_any (x : Tk) (B b : Nat) (w : World) (hs : x.text.size ≤ 140737488355328) (hn : NumVars w) (hk : KwMap w b) (hB : B < w.heap.size) (hc : w.cell? ⟨B, 0, none⟩ = some (.map (some b))) :
    Calls Tryz.prog 53 #[.agg #[.int .u8 x.kind, .string x.text, .int .i64 x.at_], .pointer (some ⟨B, 0, none⟩)] w fun e w' => e = .returned (.bool (!rightT x)) ∧ Below w.heap.size w w' := by
  have h1 := Box3.new w x.kind x.text x.at_
  have c0 := h1.c0
  have c1 := h1.c1
  have c2 := h1.c2
  have hbw := (Below.refl w.heap.size w).alloc (Nat.le_refl _) (.cells #[.int .u8 x.kind, .string x.text, .int .i64 x.at_] 35)
  have hcB := (hbw.cell (p := ⟨B, 0, none⟩) hB).trans hc
  have HN := Lib.hid (hn.alloc (.cells #[.int .u8 x.kind, .string x.text, .int .i64 x.at_] 35))
  have HK := Lib.hid (hk.alloc (.cells #[.int .u8 x.kind, .string x.text, .int .i64 x.at_] 35))
  have HB := Lib.hid hbw
  have C96 : Hid (∀ w, NumVars w → KwMap w b → Calls Tryz.prog 54 #[.agg #[.int .u8 x.kind, .string x.text, .int .i64 x.at_], .map (some b)] w fun e w' => e = .returned (.bool (rightT x)) ∧ Below w.heap.size w w') := Lib.hid (fun w h h' => isRight_any x.kind x.at_ x.text b w hs h h')
  generalize rightT x = r at C96
  clear h1 hbw hn hk hc
  go_enter Tryz.func53, Tryz.ntmps53
  go_wp2_with (go_at_call 54; refine (C96.out _ HN.out HK.out).mono ?_; rintro e w2 ⟨rfl, hb2⟩; have HB2 := Lib.hid (HB.out.trans (hb2.mono HB.out.size)); clear hb2)
  go_ret
  exact ⟨rfl, HB2.out⟩

set_option maxRecDepth 100000 in
set_option maxHeartbeats 1000000 in
theorem indexWrong_any (v : Value) (l : List Tk) (B b : Nat) (w : World) (hl : l.length ≤ 140737488355328) (ht : ∀ x ∈ l, x.text.size ≤ 140737488355328) (hn : NumVars w) (hk : KwMap w b) (hB : B < w.heap.size) (hc : w.cell? ⟨B, 0, none⟩ = some (.map (some b))) (hv : TkIn w w.heap.size v l) :
    Calls Tryz.prog 65 #[v, .func (.func 53) #[] #[.pointer (some ⟨B, 0, none⟩)]] w fun e w' => (∃ i : Int, e = .returned (.int .i64 i) ∧ decide (0 ≤ i) = !l.all rightT) ∧ Below w.heap.size w w' := by
  have HT := Lib.hid ht
  have HN := Lib.hid hn
  have HK := Lib.hid hk
  have HC := Lib.hid hc
  obtain ⟨A, c, rfl, hA⟩ := hv
  have HA := Lib.hid hA
  clear ht hA hn hk hc
  go_enter Tryz.func65, Tryz.ntmps65
  go_wp2
  go_loopw [8] (fun i wr => ∃ (k : Nat), k ≤ l.length ∧ i = .int .i64 k ∧ Hid (l.all rightT = (l.drop k).all rightT) ∧ Hid (Below w.heap.size w wr)) (fun i _ => l.length - (intOf i).toNat)
  case atStart => exact ⟨0, by omega, rfl, Lib.hid rfl, Lib.hid (Below.refl _ _)⟩
  case round =>
    obtain ⟨k, hkl, rfl, HD, HB⟩ := hrel
    by_cases hlt : k < l.length
    · obtain ⟨x, hx⟩ : ∃ x, l[k]? = some x := ⟨_, List.getElem?_eq_getElem hlt⟩
      obtain ⟨b', off, rfl, hB', g1, g2, g3⟩ := HA.out k x hx
      have hx4 : x.text.size ≤ 140737488355328 := HT.out x (List.mem_of_getElem? hx)
      have d1 := (HB.out.cell (p := ⟨b', _, none⟩) hB').trans g1
      have d2 := (HB.out.cell (p := ⟨b', _, none⟩) hB').trans g2
      have d3 := (HB.out.cell (p := ⟨b', _, none⟩) hB').trans g3
      have HS := Lib.hid (all_step rightT l k x hx)
      have C95 := Lib.hid (wrong_any x B b _ hx4 (HN.out.keep HB.out) (HK.out.below HB.out HK.out.lt) (Nat.lt_of_lt_of_le hB HB.out.size) ((HB.out.cell (p := ⟨B, 0, none⟩) hB).trans HC.out))
      clear g1 g2 g3 hx
      cases hr : rightT x
      · rw [hr] at HS C95
        go_wp2_with (go_at_call 53; refine C95.out.mono ?_; rintro e w2 ⟨rfl, hb2⟩; have HB2 := Lib.hid (HB.out.trans (hb2.mono HB.out.size)); clear hb2)
        go_ret
        refine ⟨⟨_, rfl, ?_⟩, HB2.out⟩
        rw [HD.out, HS.out]
        simp
      · rw [hr] at HS C95
        go_wp2_with (go_at_call 53; refine C95.out.mono ?_; rintro e w2 ⟨rfl, hb2⟩; have HB2 := Lib.hid (HB.out.trans (hb2.mono HB.out.size)); clear hb2)
        go_roundw
        case rel => exact ⟨k + 1, by omega, by go_num, Lib.hid (by rw [HD.out, HS.out, Bool.true_and]), HB2⟩
        case measure => simp [intOf]; omega
    · have HE := Lib.hid (show l.all rightT = true by rw [HD.out, List.drop_eq_nil_of_le (by omega)]; rfl)
      go_wp2
      go_ret
      refine ⟨⟨_, rfl, ?_⟩, HB.out⟩
      rw [HE.out]
      decide

set_option maxRecDepth 100000 in
set_option maxHeartbeats 1000000 in
theorem anyWrong_any (v : Value) (l : List Tk) (B b : Nat) (w : World) (hl : l.length ≤ 140737488355328) (ht : ∀ x ∈ l, x.text.size ≤ 140737488355328) (hn : NumVars w) (hk : KwMap w b) (hB : B < w.heap.size) (hc : w.cell? ⟨B, 0, none⟩ = some (.map (some b))) (hv : TkIn w w.heap.size v l) :
    Calls Tryz.prog 55 #[v, .func (.func 53) #[] #[.pointer (some ⟨B, 0, none⟩)]] w fun e w' => e = .returned (.bool (!l.all rightT)) ∧ Below w.heap.size w w' := by
  have C := Lib.hid (indexWrong_any v l B b w hl ht hn hk hB hc hv)
  obtain ⟨A, c, rfl, hA⟩ := hv
  clear hA ht hn hk hc
  go_enter Tryz.func55, Tryz.ntmps55
  go_wp2_with (go_at_call 65; refine C.out.mono ?_; rintro e w2 ⟨⟨i, rfl, hi⟩, hb2⟩; have HI := Lib.hid hi; have HB := Lib.hid hb2; clear hi hb2)
  go_ret
  refine ⟨ret_bool ?_, HB.out⟩
  rw [← HI.out]

set_option maxRecDepth 100000 in
set_option maxHeartbeats 1000000 in
theorem listError_any (v : Value) (l : List Tk) (w : World) (hl : l.length ≤ 140737488355328) (ht : ∀ x ∈ l, x.text.size ≤ 140737488355328) (hn : NumVars w) (hv : TkIn w w.heap.size v l) :
    Calls Tryz.prog 21 #[v] w fun e w' => e = .returned (.int .i64 (listErr l)) ∧ Below w.heap.size w w' := by
  by_cases h9 : 900 < l.length
  · have HR := Lib.hid (show listErr l = 5 by unfold listErr; rw [if_pos h9])
    obtain ⟨A, c, rfl, hA⟩ := hv
    clear hA ht hn
    go_enter Tryz.func21, Tryz.ntmps21
    go_wp2
    go_ret
    exact ⟨ret_int HR.out.symm, Below.refl _ _⟩
  · have HR := Lib.hid (show listErr l = if l.all rightT = true then 0 else 2 by unfold listErr; rw [if_neg h9])
    have hbw := ((Below.refl w.heap.size w).alloc (Nat.le_refl _) (.map (kwArr 30) 30)).alloc (by simp) (.cells #[.map (some w.heap.size)] 54)
    have hz : ((w.alloc (.map (kwArr 30) 30)).alloc (.cells #[.map (some w.heap.size)] 54)).heap.size = w.heap.size + 1 + 1 := by simp
    have hcell := cell_of_row ((w.alloc (.map (kwArr 30) 30)).alloc (.cells #[.map (some w.heap.size)] 54)) (w.heap.size + 1) 0 #[.map (some w.heap.size)] 54 (0, 0) (by have := World.alloc_heap_new (w.alloc (.map (kwArr 30) 30)) (.cells #[.map (some w.heap.size)] 54); simpa using this)
    have C97 := Lib.hid (fun (hvv : TkIn ((w.alloc (.map (kwArr 30) 30)).alloc (.cells #[.map (some w.heap.size)] 54)) ((w.alloc (.map (kwArr 30) 30)).alloc (.cells #[.map (some w.heap.size)] 54)).heap.size v l) =>
      anyWrong_any v l (w.heap.size + 1) w.heap.size ((w.alloc (.map (kwArr 30) 30)).alloc (.cells #[.map (some w.heap.size)] 54)) hl ht ((hn.alloc _).alloc _) ((KwMap.new w).alloc _) (by omega) hcell hvv)
    have HV := Lib.hid ((hv.below hbw).more (B' := ((w.alloc (.map (kwArr 30) 30)).alloc (.cells #[.map (some w.heap.size)] 54)).heap.size) (by omega))
    have HB := Lib.hid hbw
    obtain ⟨A, c, rfl, hA⟩ := hv
    clear hA ht hn hbw hz hcell
    generalize l.all rightT = r at HR C97
    cases r
    · go_enter Tryz.func21, Tryz.ntmps21
      go_wp2_with (first
        | (go_at_call 17; refine (keywords_any _).mono ?_; rintro e w1 ⟨rfl, rfl⟩)
        | (go_at_call 55; refine (C97.out HV.out).mono ?_; rintro e w2 ⟨rfl, hb2⟩; have HB2 := Lib.hid (HB.out.trans (hb2.mono HB.out.size)); clear hb2))
      go_ret
      exact ⟨ret_int (by rw [HR.out]; rfl), HB2.out⟩
    · go_enter Tryz.func21, Tryz.ntmps21
      go_wp2_with (first
        | (go_at_call 17; refine (keywords_any _).mono ?_; rintro e w1 ⟨rfl, rfl⟩)
        | (go_at_call 55; refine (C97.out HV.out).mono ?_; rintro e w2 ⟨rfl, hb2⟩; have HB2 := Lib.hid (HB.out.trans (hb2.mono HB.out.size)); clear hb2))
      go_ret
      exact ⟨ret_int (by rw [HR.out]; rfl), HB2.out⟩
end Go.Proofs.YtjadjmkbjolklaaGreatDoor
