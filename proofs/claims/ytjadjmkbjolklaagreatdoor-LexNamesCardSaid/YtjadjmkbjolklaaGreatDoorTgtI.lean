/- The contract of lex.Tight. -/
import Derived.Test.YtjadjmkbjolklaaGreatDoorTgtH
namespace Go.Proofs.YtjadjmkbjolklaaGreatDoor
open Go.RowKit

theorem bld_at_below {T e : TypeId} {B b : Nat} {p : Value} {bs : List Value} {W W' : World} (h : Lib.BuilderAtF T e B b p bs W) (hb : Below W.heap.size W W') : Lib.BuilderAtF T e B b p bs W' := by
  have hlt := h.lt
  obtain ⟨hB, v, hv, hown, hne⟩ := h
  exact ⟨hB, v, (hb.block b hlt).trans hv, hown.kept (row := none) ⟨hb.os, hb.tape, hb.output, hb.size, fun k hk _ => hb.block k hk⟩ (Classical.em _), hne⟩

theorem bld_below {T e : TypeId} {B b : Nat} {bs : List Value} {W W' : World} (h : Lib.IsBuilderF T e B b bs W) (hb : Below W.heap.size W W') : Lib.IsBuilderF T e B b bs W' :=
  h.elim (fun x => .inl (bld_at_below x hb)) (fun x => .inr (bld_at_below x hb))

theorem tok_kept {W w2 : World} {g b : Nat} {c0 c1 c2 : Value} (h : W.heap[g]? = some (.cells #[c0, c1, c2] 35 (0, 0))) (hk : Lib.OthersKept 5 (some b) W w2) (hne : g ≠ b) :
    w2.heap[g]? = some (.cells #[c0, c1, c2] 35 (0, 0)) := hk g _ h (by simpa using hne) (fun c fz e => by injection e with _ e; cases e)

set_option maxRecDepth 100000 in
set_option maxHeartbeats 2000000 in
theorem tight_any (v : Value) (l : List Tk) (w : World) (hl : l.length ≤ 140737488355328) (ht : ∀ x ∈ l, x.text.size ≤ 140737488355328) (hlen : (tgtAt l l.length).length ≤ 140737488355328) (hn : NumVars w) (hv : TkIn w w.heap.size v l) :
    Calls Tryz.prog 7 #[v] w fun e w' => e = .returned (.tuple #[.string ⟨(tightRes l).1.toArray⟩, .int .i64 (tightRes l).2]) ∧ Below w.heap.size w w' := by
  have C58 := Lib.hid (listError_any v l w hl ht hn hv)
  have HLN := Lib.hid hlen
  obtain ⟨A, c, rfl, hA⟩ := hv
  have HA := Lib.hid hA
  clear ht hA hlen hn
  by_cases he : listErr l = 0
  · have HE := Lib.hid he
    rw [he] at C58
    clear he
    go_enter Tryz.func7, Tryz.ntmps7
    go_wp2_with (go_at_call 21; refine C58.out.mono ?_; rintro e w1 ⟨rfl, hb1⟩; have HB1 := Lib.hid hb1; clear hb1)
    have hbn := builder_new w1
    have hs1 := HB1.out.size
    go_loopw [15] (fun i wr => ∃ (k : Nat) (done : List UInt8), k ≤ l.length ∧ i = .int .i64 k ∧ Lib.IsBuilderF 63 5 w1.heap.size w1.heap.size (Lib.byteCells done) wr ∧ w1.heap.size < wr.heap.size ∧ Hid (done = tgtAt l k) ∧ Hid (Below w.heap.size w wr)) (fun i _ => l.length - (intOf i).toNat)
    case atStart => exact ⟨0, [], by omega, rfl, hbn, by simp, Lib.hid rfl, Lib.hid (HB1.out.alloc HB1.out.size _)⟩
    case round =>
      obtain ⟨k, done, hk, rfl, hbd, hbs, HD, HB⟩ := hrel
      clear hbn
      have hsz := HB.out.size
      by_cases hlt : k < l.length
      · obtain ⟨x, hx⟩ : ∃ x, l[k]? = some x := ⟨_, List.getElem?_eq_getElem hlt⟩
        obtain ⟨b, off, hAe, hB, g1, g2, g3⟩ := HA.out k x hx
        subst hAe
        have HX := Lib.hid hx
        have d1 := (HB.out.cell (p := ⟨b, _, none⟩) hB).trans g1
        have d2 := (HB.out.cell (p := ⟨b, _, none⟩) hB).trans g2
        have d3 := (HB.out.cell (p := ⟨b, _, none⟩) hB).trans g3
        have hbx := Box3.new wr x.kind x.text x.at_
        have y0 := hbx.c0
        have y1 := hbx.c1
        have y2 := hbx.c2
        have hba := hbd.alloc (.cells #[.int .u8 x.kind, .string x.text, .int .i64 x.at_] 35)
        have hnb := World.alloc_heap_new wr (.cells #[.int .u8 x.kind, .string x.text, .int .i64 x.at_] 35)
        have hwa := HB.out.alloc hsz (.cells #[.int .u8 x.kind, .string x.text, .int .i64 x.at_] 35)
        have hza : (wr.alloc (.cells #[.int .u8 x.kind, .string x.text, .int .i64 x.at_] 35)).heap.size = wr.heap.size + 1 := by simp
        by_cases h0 : k = 0
        · have HS := Lib.hid (show sepAt l k = [] by rw [h0]; exact sep_zero l)
          have HBO := Lib.hid (tgt_bound HLN.out hx HS.out)
          have t1 : decide ((0 : Int) < k) = false := by simp; omega
          have t1n : decide (0 < k) = false := by simp; omega
          clear g1 g2 g3 hx hbx h0
          go_wp2_with fail
          go_quiet (fail)
          go_wp2_with fail
          refine (writeString_any w1.heap.size w1.heap.size (Lib.byteCells done) _ _ (by exact hba) (by rw [Lib.byteCells_length, HD.out]; have := HBO.out; simp at this; omega) (by show _ ≤ (World.alloc _ _).heap.size; omega)).mono ?_
          rintro e w2 ⟨rfl, hbd2, hb2, hk2⟩
          have HB2 := Lib.hid ((below_drewN hwa _).trans (hb2.mono (by omega)))
          have hz2 := hb2.size
          rw [Lib.strCells_eq, ← Lib.byteCells_append] at hbd2
          clear hb2 hk2 hbd d1 d2 d3 y0 y1 y2
          go_wp2_with fail
          go_roundw
          case rel =>
            refine ⟨k + 1, _, by omega, by go_num, .inr hbd2, by (have : wr.heap.size + 1 ≤ w2.heap.size := by rw [← hza]; exact hz2); omega, Lib.hid ?_, HB2⟩
            rw [HD.out, tgt_round HX.out, HS.out]
            rfl
          case measure => simp [intOf]; omega
        · obtain ⟨n, hn⟩ : ∃ n, n = k - 1 := ⟨_, rfl⟩
          have hnk : n < l.length := by omega
          obtain ⟨y, hy⟩ : ∃ y, l[n]? = some y := ⟨_, List.getElem?_eq_getElem hnk⟩
          obtain ⟨b', off', hAe, hB', q1, q2, q3⟩ := HA.out n y hy
          cases hAe
          have e1 := ((hwa).cell (p := ⟨b, _, none⟩) hB).trans q1
          have e2 := ((hwa).cell (p := ⟨b, _, none⟩) hB).trans q2
          have e3 := ((hwa).cell (p := ⟨b, _, none⟩) hB).trans q3
          have HS := Lib.hid (sep_glue (by omega) (by rw [← hn]; exact hy) hx)
          have HBO := Lib.hid (tgt_bound HLN.out hx HS.out)
          have w1' : IntKind.i64.wrap ((k : Int) - 1) = n := by rw [IntKind.wrap_i64]; omega
          have t1 : decide ((0 : Int) < k) = true := by simp; omega
          have t1n : decide (0 < k) = true := by simp; omega
          have C59 := Lib.hid (glue_any y x)
          clear g1 g2 g3 q1 q2 q3 hx hy hn h0 hbx
          generalize glue y x = g at HS C59 HBO
          go_wp2_with fail
          generalize wr.alloc (.cells #[.int .u8 x.kind, .string x.text, .int .i64 x.at_] 35) = wa at hba hnb hza hwa y0 y1 y2 e1 e2 e3 ⊢
          have HBD := Lib.hid hwa.drew
          have hbaD : Lib.IsBuilderF 63 5 w1.heap.size w1.heap.size (Lib.byteCells done) wa.drew := hba
          have hnbD : wa.drew.heap[wr.heap.size]? = some (.cells #[.int .u8 x.kind, .string x.text, .int .i64 x.at_] 35 (0, 0)) := hnb
          have hzaD : wa.drew.heap.size = wr.heap.size + 1 := hza
          clear d1 d2 d3
          go_still_tail 9, (by kernel_rfl)
          change wpList _ _ _ _ _ wa.drew
          clear hba hbd hnb hza hwa y0 y1 y2 e1 e2 e3
          generalize wa.drew = wd at HBD hbaD hnbD hzaD ⊢
          cases g
          · have HZ := Lib.hid (show (Lib.byteCells done).length + x.text.size ≤ 140737488355328 by rw [Lib.byteCells_length, HD.out]; have := HBO.out; simp at this; omega)
            go_wp2_with (go_at_call 22; refine (C59.out _).mono ?_; rintro e w2 ⟨rfl, hb2⟩; have hbd2 := bld_below hbaD hb2; have hnb2 := (hb2.block wr.heap.size (Nat.lt_of_lt_of_eq (Nat.lt_succ_self _) hzaD.symm)).trans hnbD; have HB2 := Lib.hid (HBD.out.trans (hb2.mono HBD.out.size)); have hz2 : wr.heap.size + 1 ≤ w2.heap.size := Nat.le_trans (Nat.le_of_eq hzaD.symm) hb2.size; have z1 := cell_of_row w2 wr.heap.size 1 _ 35 (0, 0) hnb2; clear hb2 hnbD hbaD hzaD)
            refine (writeString_any w1.heap.size w1.heap.size (Lib.byteCells done) _ _ hbd2 HZ.out (by omega)).mono ?_
            rintro e w3 ⟨rfl, hbd3, hb3, hk3⟩
            have HB3 := Lib.hid (HB2.out.trans (hb3.mono (by omega)))
            have hz3 := hb3.size
            rw [Lib.strCells_eq, ← Lib.byteCells_append] at hbd3
            clear hb3 hk3 hbd2 z1
            go_wp2_with fail
            go_roundw
            case rel =>
              refine ⟨k + 1, _, by omega, by go_num, .inr hbd3, by omega, Lib.hid ?_, HB3⟩
              rw [HD.out, tgt_round HX.out, HS.out]
              rfl
            case measure => simp [intOf]; omega
          · have HZ := Lib.hid (show (Lib.byteCells done).length + 1 ≤ 140737488355328 by rw [Lib.byteCells_length, HD.out]; have := HBO.out; simp at this; omega)
            have HZ2 := Lib.hid (show (Lib.byteCells (done ++ [32])).length + x.text.size ≤ 140737488355328 by rw [Lib.byteCells_length, List.length_append, HD.out]; have := HBO.out; simp at this ⊢; omega)
            go_wp2_with (go_at_call 22; refine (C59.out _).mono ?_; rintro e w2 ⟨rfl, hb2⟩; have hbd2 := bld_below hbaD hb2; have hnb2 := (hb2.block wr.heap.size (Nat.lt_of_lt_of_eq (Nat.lt_succ_self _) hzaD.symm)).trans hnbD; have HB2 := Lib.hid (HBD.out.trans (hb2.mono HBD.out.size)); have hz2 : wr.heap.size + 1 ≤ w2.heap.size := Nat.le_trans (Nat.le_of_eq hzaD.symm) hb2.size; clear hb2 hnbD hbaD hzaD)
            refine (writeByte_any w1.heap.size w1.heap.size (Lib.byteCells done) _ _ hbd2 HZ.out (by omega)).mono ?_
            rintro e w3 ⟨rfl, hbd3, hb3, hk3⟩
            have hnb3 := tok_kept hnb2 hk3 (by omega)
            have HB3 := Lib.hid (HB2.out.trans (hb3.mono (by omega)))
            have hz3 := hb3.size
            have z1 := cell_of_row w3 wr.heap.size 1 _ 35 (0, 0) hnb3
            have hbd3' : Lib.BuilderAtF 63 5 w1.heap.size w1.heap.size (.pointer (some ⟨w1.heap.size, 0, none⟩)) (Lib.byteCells (done ++ [32])) w3 := by rw [Lib.byteCells_append]; exact hbd3
            clear hb3 hk3 hbd2 hnb2 hnb3 hbd3
            go_wp2_with fail
            refine (writeString_any w1.heap.size w1.heap.size _ _ _ (.inr hbd3') HZ2.out (by omega)).mono ?_
            rintro e w4 ⟨rfl, hbd4, hb4, hk4⟩
            have HB4 := Lib.hid (HB3.out.trans (hb4.mono (by omega)))
            have hz4 := hb4.size
            rw [Lib.strCells_eq, ← Lib.byteCells_append] at hbd4
            clear hb4 hk4 hbd3' z1
            go_wp2_with fail
            go_roundw
            case rel =>
              refine ⟨k + 1, _, by omega, by go_num, .inr hbd4, by omega, Lib.hid ?_, HB4⟩
              rw [HD.out, tgt_round HX.out, HS.out]
              simp
            case measure => simp [intOf]; omega
      · have hkl : k = l.length := by omega
        subst hkl
        have HD' := Lib.hid HD.out
        have hdl : done.length ≤ 140737488355328 := by rw [HD'.out]; exact HLN.out
        by_cases h25 : 2500 < done.length
        · have HR := Lib.hid (tight_long HE.out (by rw [← HD'.out]; exact h25))
          go_wp2_with (go_at_call 25; refine (Tryz.Builder_Len_f _ _ _ _ hbd).mono ?_; rintro e w2 ⟨rfl, rfl⟩; rw [Lib.byteCells_length])
          go_ret2
          rw [HR.out]
          exact ⟨rfl, HB.out⟩
        · have HR := Lib.hid (tight_fine HE.out (by rw [← HD'.out]; exact h25))
          go_wp2_with (first
            | (go_at_call 25; refine (Tryz.Builder_Len_f _ _ _ _ hbd).mono ?_; rintro e w2 ⟨rfl, rfl⟩; rw [Lib.byteCells_length])
            | (go_at_call 26; refine (Tryz.Builder_String_any_k _ _ _ _ hbd (by omega)).mono ?_; rintro e w3 ⟨rfl, _, hb3, _⟩; have HB3 := Lib.hid (HB.out.trans (hb3.mono (by omega))); clear hb3))
          go_ret2
          rw [HR.out]
          exact ⟨ret_si (by rw [HD'.out]) rfl, HB3.out⟩
  · have HR := Lib.hid (tight_bad he)
    have heb : (listErr l != 0) = true := by simpa using he
    generalize listErr l = e0 at C58 HR heb
    clear he
    go_enter Tryz.func7, Tryz.ntmps7
    go_wp2_with (go_at_call 21; refine C58.out.mono ?_; rintro e w1 ⟨rfl, hb1⟩; have HB1 := Lib.hid hb1; clear hb1)
    go_ret2
    rw [HR.out]
    exact ⟨rfl, HB1.out⟩
end Go.Proofs.YtjadjmkbjolklaaGreatDoor
