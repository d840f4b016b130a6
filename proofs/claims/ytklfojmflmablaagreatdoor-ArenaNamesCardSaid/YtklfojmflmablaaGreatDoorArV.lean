/- Package arena: what is asked of places; a slice that is appended to in a box. -/
import Derived.Maps.OwnIn
import Derived.Maps.AppendAt
import Derived.RangeFuncBox
import Derived.Test.YtklfojmflmablaaGreatDoorArT
namespace Go.Proofs.YtklfojmflmablaaGreatDoor
open Go Go.RowKit Go.Shelf
attribute [local go_sem] Oper.semAt_some

/-- A function value that tells of any place whether something is so; it reads blocks below n₁ of w. -/
def SoFn (fv : Value) (so : Pl → Bool) (n₁ : Nat) (w : World) : Prop :=
  ∃ k cp, fv = .func (.func k) #[] cp ∧ (∀ args w, (callFunc k args).run Tryz.prog w = .ok (.enter k args) w) ∧
    ∀ W, (∀ b, b < n₁ → W.heap[b]? = w.heap[b]?) → ∀ p, Calls Tryz.prog k (#[plV p] ++ cp) W fun e W' => e = .returned (.bool (so p)) ∧ Below W.heap.size W W'
theorem SoFn.later {fv : Value} {so : Pl → Bool} {n₁ n₂ : Nat} {w w' : World} (h : SoFn fv so n₁ w) (hn : n₁ ≤ n₂) (hw : ∀ b, b < n₁ → w'.heap[b]? = w.heap[b]?) : SoFn fv so n₂ w' := by
  obtain ⟨k, cp, e, ek, hc⟩ := h
  exact ⟨k, cp, e, ek, fun W hW p => hc W (fun b hb => (hW b (by omega)).trans (hw b hb)) p⟩

set_option maxRecDepth 100000 in
theorem isCalled_any (p : Pl) (w : World) : Calls Tryz.prog 85 #[plV p] w fun e w' => e = .returned (.bool (isCalled p)) ∧ Below w.heap.size w w' := by
  have hb := (Below.refl _ w).alloc (Nat.le_refl _) (.cells #[.bool p.b.cell, .int .i64 p.b.n, .int .i64 p.id, .int .i64 p.arg, .bool p.jumps] 111)
  unfold plV isCalled
  by_cases h : p.id = 0
  · have hd : (p.id != 0) = false := by simp [h]
    have hd2 : decide (p.id ≠ 0) = false := by simp [h]
    rw [hd2]
    have HB := Lib.hid hb
    clear h hd2 hb
    go_enter Tryz.func85, Tryz.ntmps85
    go_wp2
    go_ret
    exact ⟨rfl, HB.out⟩
  · have hd : (p.id != 0) = true := by simp [h]
    have hd2 : decide (p.id ≠ 0) = true := by simp [h]
    rw [hd2]
    have HB := Lib.hid hb
    clear h hd2 hb
    go_enter Tryz.func85, Tryz.ntmps85
    go_wp2
    go_ret
    exact ⟨by simp [Bool.beq_eq_decide_eq], HB.out⟩

theorem isCalled_so (n₁ : Nat) (w : World) : SoFn (.func (.func 85) #[] #[]) isCalled n₁ w :=
  ⟨85, #[], rfl, enters_of Tryz.func85 (by kernel_rfl) rfl, fun W _ p => isCalled_any p W⟩

set_option maxRecDepth 100000 in
theorem anywhere_so (n₁ : Nat) (w : World) : SoFn (.func (.func 73) #[] #[]) (fun _ => true) n₁ w := by
  refine ⟨73, #[], rfl, enters_of Tryz.func73 (by kernel_rfl) rfl, fun W _ p => ?_⟩
  unfold plV
  go_enter Tryz.func73, Tryz.ntmps73
  go_wp2
  go_ret
  exact ⟨rfl, (Below.refl _ W).alloc (Nat.le_refl _) _⟩

set_option maxRecDepth 100000 in
theorem at_any (id arg : Int) (w : World) : Calls Tryz.prog 88 #[.int .i64 id, .int .i64 arg] w fun e w' =>
    e = .returned (.func (.func 161) #[] #[.pointer (some ⟨w.heap.size, 0, none⟩), .pointer (some ⟨w.heap.size + 1, 0, none⟩)]) ∧ w' = (w.alloc (.cells #[.int .i64 id] 3)).alloc (.cells #[.int .i64 arg] 3) := by
  go_enter Tryz.func88, Tryz.ntmps88
  go_wp2
  go_ret
  exact ⟨rfl, rfl⟩

set_option maxRecDepth 100000 in
theorem at1_any (p : Pl) (id arg : Int) (B C : Nat) (W : World) (hb : W.cell? ⟨B, 0, none⟩ = some (.int .i64 id)) (hc : W.cell? ⟨C, 0, none⟩ = some (.int .i64 arg)) :
    Calls Tryz.prog 161 #[plV p, .pointer (some ⟨B, 0, none⟩), .pointer (some ⟨C, 0, none⟩)] W fun e w' => e = .returned (.bool (atB id arg p)) ∧ Below W.heap.size W w' := by
  have hbw := (Below.refl _ W).alloc (Nat.le_refl _) (.cells #[.bool p.b.cell, .int .i64 p.b.n, .int .i64 p.id, .int .i64 p.arg, .bool p.jumps] 111)
  have lb : B < W.heap.size := by
    rcases Nat.lt_or_ge B W.heap.size with h | h
    · exact h
    · unfold World.cell? at hb; simp [Array.getElem?_eq_none h] at hb
  have lc : C < W.heap.size := by
    rcases Nat.lt_or_ge C W.heap.size with h | h
    · exact h
    · unfold World.cell? at hc; simp [Array.getElem?_eq_none h] at hc
  have hb' := (hbw.cell (p := ⟨B, 0, none⟩) lb).trans hb
  have hc' := (hbw.cell (p := ⟨C, 0, none⟩) lc).trans hc
  unfold plV atB
  have HB := Lib.hid hbw
  clear hb hc hbw
  by_cases h : p.id = id
  · have hd : (p.id == id) = true := by simp [h]
    have hd2 : decide (p.id = id) = true := by simp [h]
    rw [hd2]
    clear h hd2
    go_enter Tryz.func161, Tryz.ntmps161
    go_wp2
    go_ret
    exact ⟨by simp [Bool.beq_eq_decide_eq], HB.out⟩
  · have hd : (p.id == id) = false := by simp [h]
    have hd2 : decide (p.id = id) = false := by simp [h]
    rw [hd2]
    clear h hd2
    go_enter Tryz.func161, Tryz.ntmps161
    go_wp2
    go_ret
    exact ⟨rfl, HB.out⟩

theorem at_so (id arg : Int) (w : World) (n₁ : Nat) (W1 : World) (hW : Below (w.heap.size + 2) ((w.alloc (.cells #[.int .i64 id] 3)).alloc (.cells #[.int .i64 arg] 3)) W1) (hn : w.heap.size + 2 ≤ n₁) :
    SoFn (.func (.func 161) #[] #[.pointer (some ⟨w.heap.size, 0, none⟩), .pointer (some ⟨w.heap.size + 1, 0, none⟩)]) (atB id arg) n₁ W1 := by
  refine ⟨161, _, rfl, enters_of Tryz.func161 (by kernel_rfl) rfl, fun W hw p => ?_⟩
  have h1 : ((w.alloc (.cells #[.int .i64 id] 3)).alloc (.cells #[.int .i64 arg] 3)).heap[w.heap.size]? = some (.cells #[.int .i64 id] 3 (0, 0)) := (Below.heap_alloc _ _ _ (by simp)).trans (World.alloc_heap_new w _)
  have h2 : ((w.alloc (.cells #[.int .i64 id] 3)).alloc (.cells #[.int .i64 arg] 3)).heap[w.heap.size + 1]? = some (.cells #[.int .i64 arg] 3 (0, 0)) := by
    have := World.alloc_heap_new (w.alloc (.cells #[.int .i64 id] 3)) (.cells #[.int .i64 arg] 3); rwa [World.size_alloc] at this
  exact at1_any p id arg _ _ W (cell_of_row W _ 0 _ 3 (0, 0) ((hw _ (by omega)).trans ((hW.block _ (by omega)).trans h1))) (cell_of_row W _ 0 _ 3 (0, 0) ((hw _ (by omega)).trans ((hW.block _ (by omega)).trans h2)))

set_option maxRecDepth 100000 in
theorem under1_any (p q : Pl) (B : Nat) (W : World) (hb : BoxP W B q) :
    Calls Tryz.prog 163 #[plV p, .pointer (some ⟨B, 0, none⟩)] W fun e w' => e = .returned (.bool (decide (p.id = q.id) && decide (p.arg ≠ 0))) ∧ Below W.heap.size W w' := by
  have hbw := (Below.refl _ W).alloc (Nat.le_refl _) (.cells #[.bool p.b.cell, .int .i64 p.b.n, .int .i64 p.id, .int .i64 p.arg, .bool p.jumps] 111)
  have hq : BoxP (W.alloc (.cells #[.bool p.b.cell, .int .i64 p.b.n, .int .i64 p.id, .int .i64 p.arg, .bool p.jumps] 111)) B q := (hbw.block B hb.lt).trans hb
  have q2 := hq.c2
  unfold plV
  have HB := Lib.hid hbw
  clear hb hbw hq
  by_cases h : p.id = q.id
  · have hd : (p.id == q.id) = true := by simp [h]
    have hd2 : decide (p.id = q.id) = true := by simp [h]
    rw [hd2]
    clear h hd2
    go_enter Tryz.func163, Tryz.ntmps163
    go_wp2
    go_ret
    exact ⟨by simp [bne, Bool.beq_eq_decide_eq], HB.out⟩
  · have hd : (p.id == q.id) = false := by simp [h]
    have hd2 : decide (p.id = q.id) = false := by simp [h]
    rw [hd2]
    clear h hd2
    go_enter Tryz.func163, Tryz.ntmps163
    go_wp2
    go_ret
    exact ⟨rfl, HB.out⟩

set_option maxRecDepth 100000 in
theorem under_any (q : Pl) (w : World) : Calls Tryz.prog 92 #[plV q] w fun e w' => ∃ fv, e = .returned fv ∧ Below w.heap.size w w' ∧ SoFn fv (underB q) w'.heap.size w' := by
  obtain ⟨w1, hw1⟩ : ∃ w1, w.alloc (.cells #[.bool q.b.cell, .int .i64 q.b.n, .int .i64 q.id, .int .i64 q.arg, .bool q.jumps] 111) = w1 := ⟨_, rfl⟩
  have hbw : Below w.heap.size w w1 := by rw [← hw1]; exact (Below.refl _ w).alloc (Nat.le_refl _) _
  have hq : BoxP w1 w.heap.size q := by rw [← hw1]; exact BoxP.new w q
  have hz : w1.heap.size = w.heap.size + 1 := by rw [← hw1]; simp
  have HQ := Lib.hid hq
  have HB := Lib.hid hbw
  have HZ := Lib.hid hz
  have c0 := hq.c0
  have c1 := hq.c1
  have c2 := hq.c2
  have c3 := hq.c3
  have c4 := hq.c4
  have C85 := Lib.hid (isCalled_any q)
  unfold plV at C85 ⊢
  clear hq hbw hz
  cases hc : isCalled q with
  | true =>
    rw [hc] at C85
    have HC := Lib.hid hc
    clear hc
    go_enter Tryz.func92, Tryz.ntmps92
    go_wp2_with (go_at_call 85; refine (C85.out _).mono ?_; rintro e w2 ⟨rfl, hb2⟩)
    go_ret
    refine ⟨_, rfl, HB.out.trans (hb2.mono HB.out.size), 163, _, rfl, enters_of Tryz.func163 (by kernel_rfl) rfl, fun W hw p => ?_⟩
    have e : underB q p = (decide (p.id = q.id) && decide (p.arg ≠ 0)) := by unfold underB; rw [if_pos HC.out]
    rw [e]
    exact under1_any p q _ W ((hw _ (by have := hb2.size; have := HZ.out; omega)).trans ((hb2.block _ (by have := HZ.out; omega)).trans HQ.out))
  | false =>
    rw [hc] at C85
    have HC := Lib.hid hc
    clear hc
    go_enter Tryz.func92, Tryz.ntmps92
    go_wp2_with (go_at_call 85; refine (C85.out _).mono ?_; rintro e w2 ⟨rfl, hb2⟩)
    go_ret
    refine ⟨_, rfl, HB.out.trans (hb2.mono HB.out.size), 85, #[], rfl, enters_of Tryz.func85 (by kernel_rfl) rfl, fun W hw p => ?_⟩
    have e : underB q p = isCalled p := by unfold underB; rw [if_neg (by rw [HC.out]; simp)]
    rw [e]
    exact isCalled_any p W

/-- The box bl holds a slice that owns k elements; R: the box, and the row. -/
def Acc (n₀ bl : Nat) (t e : TypeId) (size k : Nat) (xs : List Value) (R : Sets) (W : World) : Prop :=
  ∃ v, Boxed W bl t v ∧ W.ownsRow n₀ e size v k xs ∧ ∀ b, R b ↔ (b = bl ∨ some b = v.ownBlock)
theorem Acc.stable {n₀ bl : Nat} {t e : TypeId} {size k : Nat} {xs : List Value} {R : Sets} {W W' : World} {B : Nat} (h : Acc n₀ bl t e size k xs R W) (ho : Only (fun b => B ≤ b ∧ ¬ R b) W W') : Acc n₀ bl t e size k xs R W' := by
  obtain ⟨v, hv, hr, hR⟩ := h
  refine ⟨v, (ho.block bl hv.lt (fun hn => hn.2 ((hR bl).2 (.inl rfl)))).trans hv, ⟨hr.1, ?_⟩, hR⟩
  rcases hr.2 with hn | ⟨g, cap, cur, rfl, hb, hg, rest⟩
  · exact .inl hn
  · exact .inr ⟨g, cap, cur, rfl, hb, (ho.block g (Array.getElem?_eq_some_iff.1 hg).1 (fun hn => hn.2 ((hR g).2 (.inr rfl)))).trans hg, rest⟩
theorem Acc.lt {n₀ bl : Nat} {t e : TypeId} {size k : Nat} {xs : List Value} {R : Sets} {W : World} (h : Acc n₀ bl t e size k xs R W) (b : Nat) (hb : R b) : b < W.heap.size := by
  obtain ⟨v, hv, hr, hR⟩ := h
  rcases (hR b).1 hb with rfl | hb
  · exact hv.lt
  · exact (hr.lt b hb.symm).2
/-- Behind an append and the store of its result. -/
theorem Acc.appended {n₀ bl : Nat} {t e : TypeId} {size k m : Nat} {xs ys : List Value} {R : Sets} {W W2 w1 : World} {v v' : Value} (hte : t ≠ e) (hv : Boxed W bl t v) (hr : W.ownsRow n₀ e size v k xs) (hR : ∀ b, R b ↔ (b = bl ∨ some b = v.ownBlock))
    (h2 : Only (fun _ => False) W W2) (hown' : w1.ownsRow n₀ e size v' m ys) (hgrow : W2.grownBy w1 v.ownBlock) (hat : v'.ownBlock = v.ownBlock ∨ v'.ownBlock = some W2.heap.size) :
    Boxed w1 bl t v ∧ ∃ R', Acc n₀ bl t e size m ys R' (w1.setCell ⟨bl, 0, none⟩ v') ∧ Foot R W R' (w1.setCell ⟨bl, 0, none⟩ v') := by
  have hv2 : Boxed W2 bl t v := (h2.block bl hv.lt (fun f => f)).trans hv
  have hv1 : Boxed w1 bl t v := hv2.kept hgrow (hv.not_row hte hr)
  have hA : Acc n₀ bl t e size m ys (fun b => b = bl ∨ some b = v'.ownBlock) (w1.setCell ⟨bl, 0, none⟩ v') :=
    ⟨v', hv1.set v', hown'.kept (grownBy_setCell' w1 bl v') (.inr (hv1.not_row hte hown').symm), fun _ => Iff.rfl⟩
  refine ⟨hv1, _, hA, ⟨?_, hA.lt, ?_⟩⟩
  · rintro b (rfl | hb)
    · exact .inl ((hR b).2 (.inl rfl))
    · rcases hat with ha | ha
      · exact .inl ((hR b).2 (.inr (by rw [hb, ha])))
      · rw [ha] at hb
        injection hb with hb
        exact .inr (by have := h2.size; omega)
  · exact ((h2.mono (T := R) fun _ _ f => f.elim).grown hgrow fun b hb hl => (hR b).2 (.inr hb.symm)).setCell _ _ fun _ => (hR bl).2 (.inl rfl)
theorem Acc.new (n₀ bl : Nat) (t e : TypeId) (size : Nat) {W : World} (h : Boxed W bl t (.slice none 0 0)) : Acc n₀ bl t e size 0 [] (fun b => b = bl) W :=
  ⟨_, h, World.ownsRow_nil _ _ _ _, fun b => by simp [Value.ownBlock]⟩
end Go.Proofs.YtklfojmflmablaaGreatDoor
