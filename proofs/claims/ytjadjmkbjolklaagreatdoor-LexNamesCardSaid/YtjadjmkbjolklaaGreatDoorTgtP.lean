/- The contract of lex.Pairs. -/
import Derived.Test.YtjadjmkbjolklaaGreatDoorTgtN
namespace Go.Proofs.YtjadjmkbjolklaaGreatDoor
open Go Go.RowKit Go.MapKept

/-- The map of the two brackets, after n of them. -/
def brArr (n : Nat) : Array MapEntry := (([(⟨#[41]⟩, ⟨#[40]⟩), (⟨#[125]⟩, ⟨#[123]⟩)] : List (ByteArray × ByteArray)).take n).zipIdx.map (fun x => (⟨.string x.1.1, .string x.1.2, x.2⟩ : MapEntry)) |>.toArray

/-- Block b is that map. -/
def BrMap (w : World) (b : Nat) : Prop := w.heap[b]? = some (.map (brArr 2) 2)

theorem BrMap.lt {w : World} {b : Nat} (h : BrMap w b) : b < w.heap.size := (Array.getElem?_eq_some_iff.1 h).1
theorem BrMap.new (w : World) : BrMap (w.alloc (.map (brArr 2) 2)) w.heap.size := World.alloc_heap_new w _
theorem BrMap.alloc {w : World} {b : Nat} (h : BrMap w b) (o : Obj) : BrMap (w.alloc o) b := (Below.heap_alloc w o b h.lt).trans h
theorem BrMap.grown {w w' : World} {b : Nat} {row : Option Nat} (h : BrMap w b) (hg : w.grownBy w' row) (hne : row ≠ some b) : BrMap w' b := (hg.block b h.lt (fun e => hne e.symm)).trans h

theorem br_put (n : Nat) (s v : ByteArray) (h1 : Instr.findNow .string (.string s) (brArr n).toList 0 = some none) (h2 : (brArr n).push ⟨.string s, .string v, n⟩ = brArr (n + 1)) (w : World) :
    (Instr.mapUpdate 73 (.map (some w.heap.size)) (.string s) (.string v)).run Tryz.prog (w.alloc (.map (brArr n) n)) = .ok () (w.alloc (.map (brArr (n + 1)) (n + 1))) := by
  rw [run_insert_new w Tryz.underlying73 Tryz.underlying9 (brArr n) n s (.string v) h1, h2]

theorem br_look {w : World} {b : Nat} (h : BrMap w b) (s : ByteArray) :
    (Instr.lookup 73 (.map (some b)) (.string s) true).run Tryz.prog w = .ok (.tuple #[.string ((mateOf s).getD ⟨#[]⟩), .bool (mateOf s).isSome]) w := by
  have hk : IsKey .string (.string s) := by simp [IsKey]
  have hz : (zeroValue 9).run Tryz.prog w = .ok (.string ⟨#[]⟩) w := by kernel_rfl
  by_cases h1 : s = ⟨#[41]⟩
  · subst h1
    have e1 : Instr.findNow .string (.string ⟨#[41]⟩) (brArr 2).toList 0 = some (some (0, .string ⟨#[40]⟩)) := by kernel_rfl
    simp only [Instr.lookup, Sem.run_bind, run_underlying Tryz.underlying73, Result.andThen, MapKept.run_getObj_map h, Sem.run_pure, run_checkKey Tryz.underlying9 hk, run_findKey Tryz.underlying9 e1]
    simp [mateOf]
  · by_cases h2 : s = ⟨#[125]⟩
    · subst h2
      have e1 : Instr.findNow .string (.string ⟨#[125]⟩) (brArr 2).toList 0 = some (some (1, .string ⟨#[123]⟩)) := by kernel_rfl
      simp only [Instr.lookup, Sem.run_bind, run_underlying Tryz.underlying73, Result.andThen, MapKept.run_getObj_map h, Sem.run_pure, run_checkKey Tryz.underlying9 hk, run_findKey Tryz.underlying9 e1]
      simp [mateOf]
    · have b1 : (s == ⟨#[41]⟩) = false := by rw [Bool.eq_false_iff]; exact fun e => h1 ((MapKept.bytes_beq s _).1 e)
      have b2 : (s == ⟨#[125]⟩) = false := by rw [Bool.eq_false_iff]; exact fun e => h2 ((MapKept.bytes_beq s _).1 e)
      have e1 : Instr.findNow .string (.string s) (brArr 2).toList 0 = some none := by
        simp [brArr, Instr.findNow, Instr.sameNow, b1, b2]
      simp only [Instr.lookup, Sem.run_bind, run_underlying Tryz.underlying73, Result.andThen, MapKept.run_getObj_map h, Sem.run_pure, run_checkKey Tryz.underlying9 hk, run_findKey Tryz.underlying9 e1, hz]
      simp [mateOf, h1, h2]

/-- The row of the pairs: what is told already, then -1. -/
def prRow (ps : List Int) (m : Nat) : List Int := ps ++ List.replicate m (-1)

theorem prRow_step (ps : List Int) (m : Nat) : prRow ps (m + 1) = prRow (ps ++ [-1]) m := by
  unfold prRow
  rw [List.replicate_succ, List.append_assoc]
  rfl

theorem prRow_set {ps : List Int} {m k j : Nat} (h1 : k < ps.length) (h2 : j < ps.length) (x y : Int) : ((prRow ps m).set k x).set j y = prRow ((ps.set k x).set j y) m := by
  unfold prRow
  rw [List.set_append_left _ _ h1, List.set_append_left _ _ (by simpa using h2)]

theorem prRow_len (ps : List Int) (m : Nat) : (prRow ps m).length = ps.length + m := by unfold prRow; simp

/-- A block is not a row's. -/
def Off (v : Value) (b : Nat) : Prop := v.ownBlock ≠ some b
theorem Off.app {v v' : Value} {N b : Nat} (h : Off v b) (h' : v'.ownBlock = v.ownBlock ∨ v'.ownBlock = some N) (hlt : b < N) : Off v' b := by
  unfold Off at *
  rcases h' with e | e
  · rw [e]; exact h
  · rw [e]
    intro e2
    injection e2 with e2
    omega

theorem cell_one (w : World) (v : Value) : (w.alloc (.cells #[v] 3)).cell? ⟨w.heap.size, 0, none⟩ = some v := by
  simp

theorem row_down {W : World} {n₀ m₀ : Nat} {e : TypeId} {size k : Nat} {v : Value} {xs : List Value} (h : W.ownsRow n₀ e size v k xs) (hm : m₀ ≤ n₀) : W.ownsRow m₀ e size v k xs := by
  rcases h with ⟨h1, h2⟩
  refine ⟨h1, ?_⟩
  rcases h2 with h | ⟨g, cap, cur, a, b, c⟩
  · exact .inl h
  · exact .inr ⟨g, cap, cur, a, Nat.le_trans hm b, c⟩

theorem close_step2 {w W : World} {n₀ g6 c6 g7 c7 k j p n1 K m bm : Nat} {ps : List Int} {os : List Nat} (HB : Below n₀ w W)
    (h6 : W.ownsRow n₀ 3 1 (.slice (some ⟨g6, 0, none⟩) K c6) K (intCells (prRow ps m))) (h7 : W.ownsRow n₀ 3 1 (.slice (some ⟨g7, 0, none⟩) n1 c7) n1 (intCells (natI (os ++ [j]))))
    (hl : ps.length = k + 1) (hj : j < k) (hK : K = k + 1 + m) (hp : p = os.length) (hn : n1 = p + 1) (hne : g6 ≠ g7) (hM : BrMap W bm) (hb : g6 ≠ bm) :
    (((W.setCell ⟨g6, k, none⟩ (.int .i64 j)).setCell ⟨g6, j, none⟩ (.int .i64 k)).drew).ownsRow n₀ 3 1 (.slice (some ⟨g6, 0, none⟩) K c6) K (intCells (prRow ((ps.set k j).set j k) m)) ∧
    (((W.setCell ⟨g6, k, none⟩ (.int .i64 j)).setCell ⟨g6, j, none⟩ (.int .i64 k)).drew).ownsRow n₀ 3 1 (.slice (some ⟨g7, 0, none⟩) p c7) (natI os).length (intCells (natI os)) ∧
    Below n₀ w (((W.setCell ⟨g6, k, none⟩ (.int .i64 j)).setCell ⟨g6, j, none⟩ (.int .i64 k)).drew) ∧
    BrMap (((W.setCell ⟨g6, k, none⟩ (.int .i64 j)).setCell ⟨g6, j, none⟩ (.int .i64 k)).drew) bm := by
  have hlen : (prRow ps m).length = K := by rw [prRow_len, hl, hK]
  have a := close_step (k := k) HB h6 h7 hlen hp hn hne
  have b1 := World.ownsRow.stored h6 k (.int .i64 j)
  have b2 := World.ownsRow.stored b1.1 j (.int .i64 k)
  have hb' : (some g6 : Option Nat) ≠ some bm := by simpa using hb
  have hM2 : BrMap ((W.setCell ⟨g6, k, none⟩ (.int .i64 j)).setCell ⟨g6, j, none⟩ (.int .i64 k)) bm := (hM.grown b1.2 hb').grown b2.2 hb'
  refine ⟨?_, a.2.1, a.2.2, hM2⟩
  have := a.1
  rw [prRow_set (by omega) (by omega)] at this
  have e : (prRow ((ps.set k (j : Int)).set j (k : Int)) m).length = K := by rw [prRow_len]; simp [hl, hK]
  rw [e] at this
  exact this

theorem br_look_none {w : World} {b : Nat} (h : BrMap w b) {s : ByteArray} (hm : mateOf s = none) :
    (Instr.lookup 73 (.map (some b)) (.string s) true).run Tryz.prog w = .ok (.tuple #[.string ⟨#[]⟩, .bool false]) w := by
  have := br_look h s
  rw [hm] at this
  exact this

theorem mate_opn {t : ByteArray} (h : isOpn t = true) : mateOf t = none := by
  unfold mateOf
  split
  · rename_i e
    rw [e] at h
    exact absurd h (by decide)
  · split
    · rename_i e
      rw [e] at h
      exact absurd h (by decide)
    · rfl

theorem tok_text {wr w5 : World} {n₀ n : Nat} {e : TypeId} {size : Nat} {v : Value} {xs : List Value} {x : Tk} {C : Obj} (h : wr.ownsRow n₀ e size v n xs)
    (hg : ((wr.alloc (.cells #[.int .u8 x.kind, .string x.text, .int .i64 x.at_] 35)).alloc C).grownBy w5 v.ownBlock) : w5.cell? ⟨wr.heap.size, 1, none⟩ = some (.string x.text) := by
  have hb := hg.block wr.heap.size (by simp; omega) (by intro e; have := row_lt h e.symm; omega)
  have h1 := (Below.heap_alloc (wr.alloc (.cells #[.int .u8 x.kind, .string x.text, .int .i64 x.at_] 35)) C wr.heap.size (by simp)).trans (World.alloc_heap_new wr _)
  have := cell_of_row w5 wr.heap.size 1 _ 35 (0, 0) (hb.trans h1)
  simpa using this

set_option maxRecDepth 100000 in
set_option maxHeartbeats 3000000 in
theorem pairs_any (v : Value) (l : List Tk) (w : World) (hl : l.length ≤ 1000000) (ht : ∀ x ∈ l, x.text.size ≤ 140737488355328) (hn : NumVars w) (hv : TkIn w w.heap.size v l) :
    Calls Tryz.prog 8 #[v] w fun e w' => ∃ v', e = .returned (.tuple #[v', .int .i64 (pairsRes l).2.1, .int .i64 (pairsRes l).2.2]) ∧ Below w.heap.size w w' ∧ IntIn w' w'.heap.size v' (pairsRes l).1 := by
  have C58 := Lib.hid (listError_any v l w (by omega) ht hn hv)
  obtain ⟨A, c, rfl, hA⟩ := hv
  have HA := Lib.hid hA
  clear ht hA hn
  by_cases he : listErr l = 0
  · have HRES := Lib.hid (show pairsRes l = prsGo l l.length 0 [] [] by unfold pairsRes; rw [if_neg (by simp [he])])
    rw [he] at C58
    clear he
    obtain ⟨i0, hi, hz0, hz1, hz2⟩ := info_parts info3
    have hm : ∀ w : World, (Instr.makeMap 73 none).run Tryz.prog w = .ok (.map (some w.heap.size)) (w.alloc (.map (brArr 0) 0)) := fun w => by
      rw [run_makeMap]
      rfl
    have i1 := br_put 0 ⟨#[41]⟩ ⟨#[40]⟩ (by kernel_rfl) (by kernel_rfl)
    have i2 := br_put 1 ⟨#[125]⟩ ⟨#[123]⟩ (by kernel_rfl) (by kernel_rfl)
    go_enter Tryz.func8, Tryz.ntmps8
    go_wp2_with (first
      | (go_at_call 21; refine C58.out.mono ?_; rintro e w1 ⟨rfl, hb1⟩; have HB1 := Lib.hid hb1; have hsz1 := hb1.size; clear hb1 C58)
      | (go_at_call 27; refine (repeat_any l.length w1.heap.size (w1.alloc (.cells #[.int .i64 (-1)] 3)) hl (by simp) (cell_one _ _)).mono ?_; rintro e w2 ⟨g6, hg6, rfl, ho2, hb2⟩; have HB2 := Lib.hid ((HB1.out.alloc hsz1 (.cells #[.int .i64 (-1)] 3)).trans (hb2.mono (HB1.out.alloc hsz1 (.cells #[.int .i64 (-1)] 3)).size)); have HO2 := Lib.hid (row_down ho2 (HB1.out.alloc hsz1 (.cells #[.int .i64 (-1)] 3)).size); have hsz2 := HB2.out.size; clear ho2 hb2 hg6))
    have HMN := Lib.hid (BrMap.new w2)
    have HB3 := Lib.hid (HB2.out.alloc hsz2 (.map (brArr 2) 2))
    have HO3 := Lib.hid (HO2.out.alloc (.map (brArr 2) 2))
    have hg6 : g6 < w2.heap.size := row_lt HO2.out rfl
    go_loopw [8, 27] (fun op i wr => ∃ (k : Nat) (ps : List Int) (os : List Nat), k ≤ l.length ∧ i = .int .i64 k ∧ ps.length = k ∧ os.length ≤ k ∧ Hid (∀ j ∈ os, j < k) ∧ Hid (pairsRes l = prsGo l (l.length - k) k ps os) ∧
      wr.ownsRow w.heap.size 3 1 (.slice (some ⟨g6, 0, none⟩) l.length l.length) l.length (intCells (prRow ps (l.length - k))) ∧ wr.ownsRow w.heap.size 3 1 op (natI os).length (intCells (natI os)) ∧ Hid (Apart (.slice (some ⟨g6, 0, none⟩) l.length l.length) op) ∧ Hid (BrMap wr w2.heap.size) ∧ Hid (Off op w2.heap.size) ∧ Hid (Below w.heap.size w wr)) (fun _ i _ => l.length - (intOf i).toNat)
    case atStart => exact ⟨0, [], [], by omega, rfl, rfl, by simp, Lib.hid (by simp), Lib.hid HRES.out, HO3.out, World.ownsRow_nil _ _ _ _, Lib.hid (Apart.nil _).symm, HMN, Lib.hid (by intro e; cases e), HB3⟩
    case round =>
      obtain ⟨k, ps, os, hk, rfl, hps, hos, HJ, HP, hrow, hnrow, HAP, HM, HOF, HB⟩ := hrel
      have hsz := HB.out.size
      have hnl : (natI os).length = os.length := by unfold natI; simp
      by_cases hlt : k < l.length
      · obtain ⟨x, hx⟩ : ∃ x, l[k]? = some x := ⟨_, List.getElem?_eq_getElem hlt⟩
        obtain ⟨b, off, hAe, hB, g1, g2, g3⟩ := HA.out k x hx
        subst hAe
        have HX := Lib.hid hx
        have d1 := (HB.out.cell (p := ⟨b, _, none⟩) hB).trans g1
        have d2 := (HB.out.cell (p := ⟨b, _, none⟩) hB).trans g2
        have d3 := (HB.out.cell (p := ⟨b, _, none⟩) hB).trans g3
        have HF := Lib.hid (show l.length - k = (l.length - (k + 1)) + 1 by omega)
        rw [HF.out, prRow_step] at hrow
        have hMlt := HM.out.lt
        have HBA := Lib.hid (HB.out.alloc hsz (.cells #[.int .u8 x.kind, .string x.text, .int .i64 x.at_] 35))
        have hlk := br_look (HM.out.alloc (.cells #[.int .u8 x.kind, .string x.text, .int .i64 x.at_] 35)) x.text
        clear g1 g2 g3 hx
        cases hopn : isOpn x.text
        · have ho1 : (x.text.toList == [40]) = false := by
            rw [toList_lit]
            exact decide_eq_false (fun e => by rw [e] at hopn; exact absurd hopn (by decide))
          have ho2 : (x.text.toList == [123]) = false := by
            rw [toList_lit]
            exact decide_eq_false (fun e => by rw [e] at hopn; exact absurd hopn (by decide))
          cases hm : mateOf x.text with
          | none =>
            have HST := Lib.hid (show pairsRes l = prsGo l (l.length - (k + 1)) (k + 1) (ps ++ [-1]) os by rw [HP.out, HF.out, go_some (step_other HX.out hopn hm)])
            rw [hm] at hlk
            simp only [Option.getD_none, Option.isSome_none] at hlk
            clear hopn hm
            go_wp2_with fail
            go_roundw
            case rel => exact ⟨k + 1, ps ++ [-1], os, by omega, by go_num, by simp; omega, by omega, Lib.hid (fun j hj => Nat.lt_succ_of_lt (HJ.out j hj)), HST, hrow.alloc _, hnrow.alloc _, HAP, Lib.hid (HM.out.alloc _), HOF, HBA⟩
            case measure => simp [intOf]; omega
          | some m =>
            rw [hm] at hlk
            simp only [Option.getD_some, Option.isSome_some] at hlk
            rcases nil_or_snoc os with rfl | ⟨os', j, rfl⟩
            · have HST := Lib.hid (show pairsRes l = ([], (k : Int), 4) by rw [HP.out, HF.out, go_none (step_none HX.out hopn hm)])
              clear hopn hm
              obtain ⟨A7, c7, rfl⟩ := slice_of hnrow
              go_wp2_with fail
              go_ret3
              rw [HST.out]
              exact ⟨_, rfl, HBA.out, intIn_nil _ _⟩
            · have hjk := HJ.out j (by simp)
              obtain ⟨y, hy⟩ : ∃ y, l[j]? = some y := ⟨_, List.getElem?_eq_getElem (by omega)⟩
              obtain ⟨b', off', hAe, hB', s1, s2, s3⟩ := HA.out j y hy
              cases hAe
              have e2 := (HBA.out.cell (p := ⟨b, _, none⟩) hB).trans s2
              have hstep := step_close (ps := ps) (os := os') HX.out hopn hm hy
              have hlen' : (natI (os' ++ [j])).length = os'.length + 1 := by unfold natI; simp
              rw [hlen'] at hnrow hnl
              have hlast := nat_last os' j
              obtain ⟨p, hp⟩ : ∃ p, p = os'.length := ⟨_, rfl⟩
              obtain ⟨n1, hn1⟩ : ∃ n1, n1 = p + 1 := ⟨_, rfl⟩
              have HP1 := Lib.hid hp
              have HN1 := Lib.hid hn1
              rw [← hp, ← hn1] at hnrow hnl
              rw [← hp] at hlast
              obtain ⟨g7, c7, rfl⟩ : ∃ g cap, u8 = .slice (some ⟨g, 0, none⟩) n1 cap := by
                rw [hn1] at hnrow ⊢
                exact ownsRow_succ hnrow
              have wl : IntKind.i64.wrap ((n1 : Int) - 1) = p := by rw [IntKind.wrap_i64]; omega
              have hn1le : n1 ≤ k := by rw [← hnl] at *; simp at hos; omega
              have tz : decide ((p : Int) < 0) = false := decide_eq_false (by omega)
              have hpc : p < n1 := by omega
              have hrowA := hrow.alloc (.cells #[.int .u8 x.kind, .string x.text, .int .i64 x.at_] 35)
              have hnrowA := hnrow.alloc (.cells #[.int .u8 x.kind, .string x.text, .int .i64 x.at_] 35)
              have HMA := Lib.hid (HM.out.alloc (.cells #[.int .u8 x.kind, .string x.text, .int .i64 x.at_] 35))
              have dtop := (hnrowA.cellAt p (by omega)).trans hlast
              have hg67 : g6 ≠ g7 := by
                rcases HAP.out with h | h | h
                · simp [Value.ownBlock] at h
                · simp [Value.ownBlock] at h
                · simpa [Value.ownBlock] using h
              have hpI : (p : Int) < (n1 : Int) := by omega
              have hjI : (j : Int) < (l.length : Int) := by omega
              have hjN : j < l.length := by omega
              have hkI : (k : Int) < (l.length : Int) := by omega
              have HL1 := Lib.hid (show (ps ++ [-1]).length = k + 1 by simp [hps])
              have HCS := Lib.hid (close_step2 (k := k) (j := j) HBA.out hrowA hnrowA HL1.out hjk (show l.length = k + 1 + (l.length - (k + 1)) by omega) HP1.out HN1.out hg67 HMA.out (by omega))
              have hOp : Hid (Off (.slice (some ⟨g7, 0, none⟩) p c7) w2.heap.size) := Lib.hid (by intro e; exact HOF.out e)
              have HAp : Hid (Apart (.slice (some ⟨g6, 0, none⟩) l.length l.length) (.slice (some ⟨g7, 0, none⟩) p c7)) := Lib.hid (.inr (.inr (by simpa [Value.ownBlock] using hg67)))
              have hsl : ∀ w', (Instr.slice 36 (.slice (some ⟨g7, 0, none⟩) n1 c7) none (some (.int .i64 p)) none).run Tryz.prog w' = .ok (.slice (some ⟨g7, 0, none⟩) p c7) w' := fun w' => slice41_h w' (by have := own_room hnrow; omega)
              clear hopn hm s1 s2 s3 hp hn1 hlen' hy hnl hlast
              by_cases hym : y.text = m
              · have qe : (y.text.toList == m.toList) = true := by rw [toList_beq]; exact decide_eq_true hym
                have qn : (!(y.text.toList == m.toList)) = false := by rw [qe]; rfl
                rw [if_pos hym] at hstep
                have HST := Lib.hid (show pairsRes l = prsGo l (l.length - (k + 1)) (k + 1) (((ps ++ [-1]).set k j).set j k) os' by rw [HP.out, HF.out, go_some hstep])
                clear hstep hym
                go_wp2_with fail
                clear hlk e2 d1 d2 d3 qe qn
                generalize wr.alloc (.cells #[.int .u8 x.kind, .string x.text, .int .i64 x.at_] 35) = wa at hrowA hnrowA dtop HCS HBA HMA ⊢
                have hlk : (intCells (prRow (ps ++ [-1]) (l.length - (k + 1)))).length = l.length := by unfold intCells; rw [List.length_map, prRow_len, HL1.out]; omega
                have st1 := (hrowA.cellAt k (by omega)).trans (List.getElem?_eq_getElem (by omega))
                have st2 := (hrowA.cellAt j (by omega)).trans (List.getElem?_eq_getElem (by omega))
                generalize (intCells (prRow (ps ++ [-1]) (l.length - (k + 1))))[k]'_ = z1 at st1
                generalize (intCells (prRow (ps ++ [-1]) (l.length - (k + 1))))[j]'_ = z2 at st2
                have fz1 := hrowA.frozenAt k
                have fz2 := hrowA.frozenAt j
                have st3 : (wa.setCell ⟨g6, k, none⟩ (.int .i64 j)).cell? ⟨g6, j, none⟩ = some z2 := (World.cell?_setCell_other _ _ _ _ (by intro e; simp only [Addr.mk.injEq] at e; omega)).trans st2
                have st4 : (wa.setCell ⟨g6, k, none⟩ (.int .i64 j)).cell? ⟨g7, p, none⟩ = some (.int .i64 j) := (World.cell?_setCell_other _ _ _ _ (by intro e; simp only [Addr.mk.injEq] at e; omega)).trans dtop
                have hjkn : j ≠ k := by omega
                clear hlk hrow hnrow hrowA hnrowA
                go_region
                go_wp2_with fail
                go_roundw
                case rel => exact ⟨k + 1, ((ps ++ [-1]).set k j).set j k, os', by omega, by go_num, by simp; omega, by simp at hos; omega, Lib.hid (fun i hi => Nat.lt_succ_of_lt (HJ.out i (by simp [hi]))), HST, HCS.out.1, HCS.out.2.1, HAp, Lib.hid HCS.out.2.2.2, hOp, Lib.hid HCS.out.2.2.1⟩
                case measure => simp [intOf]; omega
              · have qe : (y.text.toList == m.toList) = false := by rw [toList_beq]; exact decide_eq_false hym
                have qn : (!(y.text.toList == m.toList)) = true := by rw [qe]; rfl
                rw [if_neg hym] at hstep
                have HST := Lib.hid (show pairsRes l = ([], (k : Int), 4) by rw [HP.out, HF.out, go_none hstep])
                clear hstep hym
                go_wp2_with fail
                go_ret3
                rw [HST.out]
                exact ⟨_, rfl, HBA.out, intIn_nil _ _⟩
        · have HST := Lib.hid (show pairsRes l = prsGo l (l.length - (k + 1)) (k + 1) (ps ++ [-1]) (os ++ [k]) by rw [HP.out, HF.out, go_some (step_open HX.out hopn)])
          have hnew2 : ∀ j u, [Value.int .i64 k][j]? = some u → ((wr.alloc (.cells #[.int .u8 x.kind, .string x.text, .int .i64 x.at_] 35)).alloc (.cells #[.int .i64 k] 3)).cell? (Addr.add ⟨wr.heap.size + 1, 0, none⟩ j) = some u := by
            have := cells_new (wr.alloc (.cells #[.int .u8 x.kind, .string x.text, .int .i64 x.at_] 35)) 3 [.int .i64 k]
            simpa using this
          have hor : ((x.text.toList == [40]) = true) ∨ ((x.text.toList == [40]) = false ∧ (x.text.toList == [123]) = true) := by
            rw [toList_lit, toList_lit]
            unfold isOpn at hopn
            by_cases h1 : x.text = ⟨#[40]⟩
            · exact .inl (decide_eq_true h1)
            · exact .inr ⟨decide_eq_false h1, by simpa [h1] using hopn⟩
          have hmn := Lib.hid (mate_opn hopn)
          clear hopn hlk
          rcases hor with q1 | ⟨q1, q2⟩
          all_goals
            go_wp2_with (at_builtin; refine wpList_append_own_at _ rfl _ _ 36 rfl w.heap.size 3 i0 _ 1 8 Tryz.underlying36 hi hz0 hz1 hz2 rfl (by decide) _ _ _ rfl ((hnrow.alloc _).alloc _) ⟨wr.heap.size + 1, 0, none⟩ 1 1 [.int .i64 k] rfl rfl hnew2 (by simp [Value.oneCell']) (by unfold maxLen; omega) (by omega) (by simp; omega) ?_; intro v5 w5 hown5 hgrow5 _ hat5; have HB5 := Lib.hid ((HBA.out.alloc HBA.out.size (.cells #[.int .i64 k] 3)).grown hgrow5 (by simp; omega) (fun k e => row_base hnrow e)); have HN5 := Lib.hid (nat_app hown5); have HR5 := Lib.hid (((hrow.alloc _).alloc (.cells #[.int .i64 k] 3)).kept hgrow5 HAP.out.fst); have HA5 := Lib.hid ((HAP.out.symm.app hat5 (fun g hg => Nat.lt_of_lt_of_le (row_lt hrow hg) (by simp; omega))).symm); have HM5 := Lib.hid (((HM.out.alloc _).alloc (.cells #[.int .i64 k] 3)).grown hgrow5 HOF.out); have HO5 := Lib.hid (HOF.out.app hat5 (by simp; omega)); have hlk5 := br_look_none HM5.out hmn.out; have htk5 := tok_text (x := x) hnrow hgrow5; clear hrow hnrow hown5 hgrow5 hat5)
            go_roundw
            case rel => exact ⟨k + 1, ps ++ [-1], os ++ [k], by omega, by go_num, by simp; omega, by simp; omega, Lib.hid (mem_step HJ.out), HST, HR5.out, HN5.out, HA5, HM5, HO5, HB5⟩
            case measure => simp [intOf]; omega
      · have hkl : k = l.length := by omega
        have hP := HP.out
        rw [show l.length - k = 0 by omega] at hP hrow
        have hpr : prRow ps 0 = ps := by unfold prRow; simp
        rw [hpr] at hrow
        have hrow' : wr.ownsRow w.heap.size 3 1 (.slice (some ⟨g6, 0, none⟩) l.length l.length) ps.length (intCells ps) := by rw [hps, hkl]; exact hrow
        clear hrow hpr
        cases os with
        | nil =>
          have HR := Lib.hid (show pairsRes l = (ps, 0, 0) from hP)
          clear hP
          obtain ⟨A7, c7, rfl⟩ := slice_of hnrow
          have HI := Lib.hid (intIn_of_own hrow')
          clear hrow'
          go_wp2_with fail
          go_ret3
          rw [HR.out]
          exact ⟨_, rfl, HB.out, HI.out⟩
        | cons j os =>
          have HR := Lib.hid (show pairsRes l = ([], (j : Int), 4) from hP)
          clear hP hrow'
          have hn2 : wr.ownsRow w.heap.size 3 1 u8 (os.length + 1) (intCells (natI (j :: os))) := by
            have : (natI (j :: os)).length = os.length + 1 := by unfold natI; simp
            rw [← this]
            exact hnrow
          obtain ⟨g7, c7, rfl⟩ := ownsRow_succ hn2
          have d0 := hn2.cellAt 0 (by omega)
          have d0' : wr.cell? ⟨g7, 0, none⟩ = some (.int .i64 j) := d0
          clear d0 hnrow
          go_wp2_with fail
          go_quiet (fail)
          go_wp2_with fail
          go_ret3
          rw [HR.out]
          exact ⟨_, rfl, below_drewN HB.out _, intIn_nil _ _⟩
  · have HR := Lib.hid (show pairsRes l = ([], 0, listErr l) by unfold pairsRes; rw [if_pos he])
    have heb : (listErr l != 0) = true := by simpa using he
    generalize listErr l = e0 at C58 HR heb
    clear he
    go_enter Tryz.func8, Tryz.ntmps8
    go_wp2_with (go_at_call 21; refine C58.out.mono ?_; rintro e w1 ⟨rfl, hb1⟩; have HB1 := Lib.hid hb1; clear hb1)
    go_ret3
    rw [HR.out]
    exact ⟨_, rfl, HB1.out, intIn_nil _ _⟩
end Go.Proofs.YtjadjmkbjolklaaGreatDoor
