/- Package arena: Read. -/
import Derived.Test.YtklfojmflmablaaGreatDoorArL
import Derived.Test.YtklfojmflmablaaGreatDoorVl
import Derived.Test.YtklfojmflmablaaGreatDoorRd
import Derived.Lib.Split
import Derived.RangeFuncCalls
import Derived.Shelf.RegionOpen
import Derived.Test.YtklfojmflmablaaGreatDoorEd
import Derived.Test.YtklfojmflmablaaGreatDoorGk
import Derived.Test.YtklfojmflmablaaGreatDoorIn
import Derived.Test.YtklfojmflmablaaGreatDoorLcx
/- A range over a function value whose maker keeps boxes of its own that it turns: the walk's law, as in the one for makers that only read. -/
namespace Go.Proofs.YtklfojmflmablaaGreatDoor
open Go Go.RowKit

/-- As Eats; whoever hands the items may also turn its own blocks M. -/
structure EatsM {α : Type} (P : Program) (B : Nat) (M : Sets) (y : Value) (enc : α → Array Value) (xs : List α) (J Jx : List α → Sets → World → Prop) : Prop where
  form : ∃ l, y = .func (.yield l) #[] #[]
  stable : ∀ pre R W W', J pre R W → Only (fun k => (B ≤ k ∨ M k) ∧ ¬ R k) W W' → J pre R W'
  stablex : ∀ pre R W W', Jx pre R W → Only (fun k => (B ≤ k ∨ M k) ∧ ¬ R k) W W' → Jx pre R W'
  take : ∀ pre x R W, (pre ++ [x]) <+: xs → B ≤ W.heap.size → J pre R W → (∀ k, R k → k < W.heap.size) → Yields P y (enc x) W fun e W' =>
    ∃ R', Foot R W R' W' ∧ ((e = .returned (.bool true) ∧ J (pre ++ [x]) R' W') ∨ (e = .returned (.bool false) ∧ Jx (pre ++ [x]) R' W'))

structure FootM (M : Sets) (R : Sets) (W : World) (R' : Sets) (W' : World) : Prop where
  sub : ∀ k, R' k → R k ∨ W.heap.size ≤ k
  lt : ∀ k, R' k → k < W'.heap.size
  only : Only (fun k => R k ∨ M k) W W'

/-- As Iters, of a maker that turns its own blocks M. -/
def ItersM {α : Type} (P : Program) (f : Nat) (args : Value → Array Value) (enc : α → Array Value) (xs : List α) (own M : Sets) (w : World) : Prop :=
  ∀ (y : Value) (J Jx : List α → Sets → World → Prop) (R : Sets) (W : World), EatsM P W.heap.size M y enc xs J Jx → w.heap.size ≤ W.heap.size → (∀ k, own k → W.heap[k]? = w.heap[k]?) → (∀ k, R k → ¬ own k) →
    (∀ k, R k → k < W.heap.size) → J [] R W →
    Calls P f (args y) W fun e W' => (∃ v, e = .returned v) ∧ ∃ R', FootM M R W R' W' ∧ (J xs R' W' ∨ ∃ pre, pre <+: xs ∧ Jx pre R' W')

theorem FootM.refl {M R : Sets} {W : World} (h : ∀ k, R k → k < W.heap.size) : FootM M R W R W := ⟨fun _ h => .inl h, h, Only.refl _ _⟩
/-- The consumer's call behind what was. -/
theorem FootM.call {M R R1 R2 : Sets} {W W1 W2 W3 : World} (a : FootM M R W R1 W1) (h : Only (fun k => W.heap.size ≤ k ∨ M k) W1 W2) (b : Foot R1 W2 R2 W3) : FootM M R W R2 W3 :=
  ⟨fun k hk => (b.sub k hk).elim (a.sub k) (fun hk => .inr (Nat.le_trans a.only.size (Nat.le_trans h.size hk))), b.lt,
   (a.only.trans h (fun i hi hn => hn.elim (fun hn => absurd hi (by omega)) .inr)).trans b.only (fun i hi hn => (a.sub i hn).elim .inl (fun hn => absurd hi (by omega)))⟩
/-- A store into one's own blocks behind what was. -/
theorem FootM.then {M R R1 : Sets} {W W1 W2 : World} (a : FootM M R W R1 W1) (h : Only (fun k => W.heap.size ≤ k ∨ M k) W1 W2) : FootM M R W R1 W2 :=
  ⟨a.sub, fun k hk => Nat.lt_of_lt_of_le (a.lt k hk) h.size, a.only.trans h (fun i hi hn => hn.elim (fun hn => absurd hi (by omega)) .inr)⟩
/-- A block of the maker's that it doesn't turn, or that it has set, stays over the consumer's call. -/
theorem FootM.own {M R R1 : Sets} {W W1 : World} (a : FootM M R W R1 W1) {b : Nat} {o : Obj} (hb : W.heap[b]? = some o) (hn : ¬ R b) (hm : ¬ M b) : W1.heap[b]? = some o :=
  (a.only.block b (Array.getElem?_eq_some_iff.1 hb).1 (fun h => h.elim hn hm)).trans hb

theorem EatsM.next {α : Type} {P : Program} {B : Nat} {M : Sets} {y : Value} {enc : α → Array Value} {xs : List α} {J Jx : List α → Sets → World → Prop} (h : EatsM P B M y enc xs J Jx) {W0 : World} {R0 R : Sets} {W : World} {pre : List α} {x : α}
    (hx : pre ++ [x] <+: xs) (hB : B ≤ W0.heap.size) (hf : FootM M R0 W0 R W) (hj : J pre R W) : ∀ w2, Only (fun k => (B ≤ k ∨ M k) ∧ ¬ R k) W w2 → Yields P y (enc x) w2 fun e W' => ∃ R2, Foot R w2 R2 W' ∧ ((e = .returned (.bool true) ∧ J (pre ++ [x]) R2 W') ∨ (e = .returned (.bool false) ∧ Jx (pre ++ [x]) R2 W')) :=
  fun w2 ho => h.take pre x R w2 hx (by have := hf.only.size; have := ho.size; omega) (h.stable _ _ _ _ hj ho) (fun k hk => Nat.lt_of_lt_of_le (hf.lt k hk) ho.size)

variable {n : Nat} {P : Program}

theorem wpIn_rangeM {α : Type} {g : Operand} {ps : Array Tmp} {assign body : Code} {Q : Exit → Act → World → Prop} {a : Act} {w : World}
    {gf : Nat} {first lb : Array Value} (hg : a.eval g = .func (.func gf) first lb) (eg : ∀ args w, (callFunc gf args).run P w = .ok (.enter gf args) w)
    {enc : α → Array Value} {xs : List α} {own M : Sets} (hit : ItersM P gf (fun y => (first ++ #[y]) ++ lb) enc xs own M w) (hps : ∀ x, (enc x).size = ps.size)
    (I : List α → Sets → World → Prop) (Ix : Code → List α → Sets → World → Prop)
    (hI : ∀ pre R W W', I pre R W → Only (fun k => (w.heap.size ≤ k ∨ M k) ∧ ¬ R k) W W' → I pre R W')
    (hIx : ∀ c pre R W W', Ix c pre R W → Only (fun k => (w.heap.size ≤ k ∨ M k) ∧ ¬ R k) W W' → Ix c pre R W')
    (R0 : Sets) (hR0 : ∀ k, R0 k → k < w.heap.size) (hown : ∀ k, own k → k < w.heap.size) (hdis : ∀ k, R0 k → ¬ own k) (h0 : I [] R0 w)
    (hround : ∀ (l : Nat) (pre : List α) (x : α) (R : Sets) (W : World), (pre ++ [x]) <+: xs → FootM M R0 w R W → I pre R W → ¬ R l → l < W.heap.size → w.heap.size ≤ l →
      assign.wpIn (Fence.wide.inRound l) 3 P (Exit.then (fun a' W' => Only (fun _ => False) W W' ∧ ∀ W'', W''.heap.size = W'.heap.size → Only (fun k => k = l) W' W'' → Only (fun k => k = l) W W'' → I pre R W'' →
        body.wpIn (Fence.wide.inRound l) 3 P (bodyPostR I Ix (pre ++ [x]) R W'') a' W'') (fun _ _ _ => False))
        { tmps := (ps.zip (enc x)).foldl (fun t (p, v) => t.setIfInBounds p v) a.tmps, defers := [] } W)
    (hdone : ∀ (D : Nat) (R : Sets) (W : World), w.heap.size ≤ D → ¬ R D → FootM M R0 w R W → I xs R W → W.heap[D]? = some (.deferred (some [])) → Q .normal { a with defers := { target := .collected D, args := #[] } :: a.defers } W)
    (hstop : ∀ (D : Nat) (c : Code) (pre : List α) (R : Sets) (W : World), w.heap.size ≤ D → ¬ R D → pre <+: xs → FootM M R0 w R W → Ix c pre R W → W.heap[D]? = some (.deferred (some [])) → c.wpIn Fence.wide n P Q { a with defers := { target := .collected D, args := #[] } :: a.defers } W) :
    (Code.rangeFunc g ps assign body).wpIn Fence.wide n P Q a w := by
  refine wpIn_rangeFunc ?_
  intro fn hfn
  obtain ⟨rec, hrec⟩ : ∃ rec : LoopState → Option Code → Loop, rec = fun st pe => { state := st, pending := pe, fn, tmps := a.tmps, params := ps, assign, body, defers := w.heap.size } := ⟨_, rfl⟩
  obtain ⟨W1, hW1⟩ : ∃ W1, (w.alloc (.deferred (some []))).alloc (.loop (rec .ready none)) = W1 := ⟨_, rfl⟩
  have s1 : W1.heap.size = w.heap.size + 2 := by rw [← hW1]; simp
  have o1 : Only (fun _ => False) w W1 := by rw [← hW1]; exact ((Only.refl _ w).alloc _).alloc _
  have hL1 : W1.heap[w.heap.size + 1]? = some (.loop (rec .ready none)) := by
    rw [← hW1]; have := World.alloc_heap_new (w.alloc (.deferred (some []))) (.loop (rec .ready none)); rwa [World.size_alloc] at this
  have hK1 : W1.heap[w.heap.size]? = some (.deferred (some [])) := by
    rw [← hW1]; exact (Below.heap_alloc _ _ _ (by simp)).trans (World.alloc_heap_new w _)
  -- the consumer: the loop itself: its blocks are those of the caller's invariant, the record and the block for deferred calls
  let own2 : Sets := fun k => k = w.heap.size ∨ k = w.heap.size + 1
  let J : List α → Sets → World → Prop := fun pre R W => ∃ R0', (∀ k, R k ↔ (R0' k ∨ own2 k)) ∧ FootM M R0 w R0' W ∧ (∀ k, R0' k → ¬ own2 k) ∧ I pre R0' W ∧ W.heap[w.heap.size + 1]? = some (.loop (rec .ready none)) ∧ W.heap[w.heap.size]? = some (.deferred (some []))
  let Jx : List α → Sets → World → Prop := fun pre R W => ∃ c R0', (∀ k, R k ↔ (R0' k ∨ own2 k)) ∧ FootM M R0 w R0' W ∧ (∀ k, R0' k → ¬ own2 k) ∧ Ix c pre R0' W ∧ W.heap[w.heap.size + 1]? = some (.loop (rec .done (some c))) ∧ W.heap[w.heap.size]? = some (.deferred (some []))
  have ltOf : ∀ {W : World} {k : Nat} {o : Obj}, W.heap[k]? = some o → k < W.heap.size := fun h => (Array.getElem?_eq_some_iff.1 h).1
  have keep : ∀ {R R0' : Sets} {W W' : World}, (∀ k, R k ↔ (R0' k ∨ own2 k)) → FootM M R0 w R0' W → Only (fun k => (W1.heap.size ≤ k ∨ M k) ∧ ¬ R k) W W' →
      Only (fun k => (w.heap.size ≤ k ∨ M k) ∧ ¬ R0' k) W W' ∧ FootM M R0 w R0' W' := fun hR hf ho =>
    ⟨ho.mono fun i _ hn => ⟨hn.1.imp (fun h => by omega) id, fun h0 => hn.2 ((hR i).2 (.inl h0))⟩,
     ⟨hf.sub, fun k hk => Nat.lt_of_lt_of_le (hf.lt k hk) ho.size, hf.only.trans ho (fun i hi hn => hn.1.elim (fun h => absurd h (by omega)) .inr)⟩⟩
  have keepO : ∀ {R R0' : Sets} {W W' : World} {k : Nat} {o : Obj}, (∀ k, R k ↔ (R0' k ∨ own2 k)) → Only (fun k => (W1.heap.size ≤ k ∨ M k) ∧ ¬ R k) W W' → own2 k → W.heap[k]? = some o → W'.heap[k]? = some o := fun hR ho hk h =>
    (ho.block _ (ltOf h) (fun hn => hn.2 ((hR _).2 (.inr hk)))).trans h
  have foot1 : ∀ {R R0' R1 R1' : Sets} {W W' : World}, (∀ k, R k ↔ (R0' k ∨ own2 k)) → (∀ k, R1 k ↔ (R1' k ∨ own2 k)) → (∀ k, R1' k → R0' k ∨ W.heap.size ≤ k) → (∀ k, R1' k → k < W'.heap.size) → w.heap.size + 2 ≤ W'.heap.size → Only R W W' → Foot R W R1 W' :=
    fun hR hR1 hs hl hz ho => ⟨fun k hk => ((hR1 k).1 hk).elim (fun h => (hs k h).elim (fun h => .inl ((hR k).2 (.inl h))) .inr) (fun h => .inl ((hR k).2 (.inr h))),
      fun k hk => ((hR1 k).1 hk).elim (hl k) (fun h => by rcases h with rfl | rfl <;> omega), ho⟩
  refine ⟨w.heap.size + 1, [{ target := .collected w.heap.size, args := #[] }], W1, { target := .fn (.func gf) lb, args := first ++ #[.func (.yield (w.heap.size + 1)) #[] #[]] }, W1, gf,
    (first ++ #[.func (.yield (w.heap.size + 1)) #[] #[]]) ++ lb, W1, ?_, ?_, ?_, ?_, fun h => absurd h (by simp [Fence.wide]), ?_⟩
  · rw [← hW1, hrec]; exact run_enterLoop_outer _ _ _ _ _
  · simp only [resolve, hg]
    simp [go_sem]
  · intro f' _; trivial
  · simp [invoke, eg]
  · have hlp : FootM M R0 w R0 W1 := ⟨fun k h => .inl h, fun k h => by have := hR0 k h; omega, o1.mono (fun _ _ f => f.elim)⟩
    have hd0 : ∀ k, R0 k → ¬ own2 k := fun k hk ho => by have := hR0 k hk; rcases ho with rfl | rfl <;> omega
    refine (callsIn_wide.2 (hit (.func (.yield (w.heap.size + 1)) #[] #[]) J Jx (fun k => R0 k ∨ own2 k) W1
      ⟨⟨_, rfl⟩, ?stable, ?stablex, ?take⟩ (by omega) (fun k hk => o1.block k (hown k hk) (fun f => f)) ?dis ?lt ?start)).mono ?_
    case stable =>
      rintro pre R W W' ⟨R0', hR, hf, hd, hi, hl, hk⟩ ho
      obtain ⟨ho', hf'⟩ := keep hR hf ho
      exact ⟨R0', hR, hf', hd, hI _ _ _ _ hi ho', keepO hR ho (.inr rfl) hl, keepO hR ho (.inl rfl) hk⟩
    case stablex =>
      rintro pre R W W' ⟨c, R0', hR, hf, hd, hi, hl, hk⟩ ho
      obtain ⟨ho', hf'⟩ := keep hR hf ho
      exact ⟨c, R0', hR, hf', hd, hIx _ _ _ _ _ hi ho', keepO hR ho (.inr rfl) hl, keepO hR ho (.inl rfl) hk⟩
    case dis =>
      rintro k (hk | rfl | rfl) ho
      · exact hdis k hk ho
      · have := hown _ ho; omega
      · have := hown _ ho; omega
    case lt =>
      rintro k (hk | rfl | rfl)
      · have := hR0 k hk; omega
      · omega
      · omega
    case start => exact ⟨R0, fun k => Iff.rfl, hlp, hd0, hI _ _ _ _ h0 (o1.mono (fun _ _ f => f.elim)), hL1, hK1⟩
    case take =>
      rintro pre x R W hx hB ⟨R0', hR, hf, hd, hi, hl, hk⟩ hRlt
      refine .inr ⟨_, rfl, fun m => ?_⟩
      have hlt : w.heap.size + 1 < W.heap.size := ltOf hl
      have hy := run_yield (P := P) (args := enc x) hl (by rw [hrec]; exact hps x)
      rw [hrec] at hy
      suffices hs : RoundIn Fence.wide 3 P (w.heap.size + 1) fn _ assign body W _ from ⟨fn, _, assign, body, hy, hs.1, fun c cs _ => hs.2 c cs (room_wide _)⟩
      refine roundIn_of_wpIn hfn ?_
      clear hy
      refine wpIn_mono (hround (w.heap.size + 1) pre x R0' W hx hf hi (fun h => hd _ h (.inr rfl)) hlt (by omega)) ?_
      rintro e a' Wa he
      cases e with
      | normal =>
        obtain ⟨hoa, hnext⟩ := he
        have hla := (hoa.block _ hlt (fun f => f)).trans hl
        have hka := (hoa.block _ (by omega) (fun f => f)).trans hk
        have hlta : w.heap.size + 1 < Wa.heap.size := ltOf hla
        refine ⟨_, run_beginRound hla (by rw [hrec]), ?_⟩
        obtain ⟨Wb, hWb⟩ : ∃ Wb, Wa.putObj (w.heap.size + 1) (.loop { rec .ready none with state := .busy }) = Wb := ⟨_, rfl⟩
        have hob : Only (fun k => k = w.heap.size + 1) Wa Wb := by rw [← hWb]; exact (Only.refl _ _).putObj _ _ (fun _ => rfl)
        have hzb : Wb.heap.size = Wa.heap.size := by rw [← hWb]; simp
        have hlb : Wb.heap[w.heap.size + 1]? = some (.loop { rec .ready none with state := .busy }) := by rw [← hWb]; exact World.putObj_heap_same hlta
        have hkb : Wb.heap[w.heap.size]? = some (.deferred (some [])) := (hob.block _ (by omega) (by omega)).trans hka
        have how : Only (fun k => k = w.heap.size + 1) W Wb := hoa.mono (T := fun k => k = w.heap.size + 1) (fun _ _ f => f.elim) |>.trans hob (fun _ _ h => h)
        have hib : I pre R0' Wb := hI _ _ _ _ hi (how.mono (fun i _ h => ⟨.inl (by omega), fun h0 => hd _ h0 (.inr h)⟩))
        rw [hWb]
        refine wpIn_mono (hnext Wb hzb hob how hib) ?_
        have fin : ∀ (jump : Option Code) (R1 : Sets) (W3 : World), Foot R0' Wb R1 W3 → ∃ W4, (Instr.endRound (w.heap.size + 1) jump).run P W3 = .ok (.bool jump.isNone) W4 ∧ Only (fun k => k = w.heap.size + 1) W3 W4 ∧ W4.heap.size = W3.heap.size ∧
            W4.heap[w.heap.size + 1]? = some (.loop (rec (if jump.isNone then .ready else .done) jump)) ∧ W4.heap[w.heap.size]? = some (.deferred (some [])) ∧ (∀ k, R1 k → ¬ own2 k) ∧ FootM M R0 w R1 W4 ∧
            ∃ R2 : Sets, (∀ k, R2 k ↔ (R1 k ∨ own2 k)) ∧ Foot R W R2 W4 := fun jump R1 W3 hf3 => by
          have hd3 : ∀ k, R1 k → ¬ own2 k := fun k hk ho => (hf3.sub k hk).elim (fun h => hd k h ho) (fun h => by rcases ho with rfl | rfl <;> omega)
          have hl3 := (hf3.only.block _ (ltOf hlb) (fun h => hd _ h (.inr rfl))).trans hlb
          have hk3 := (hf3.only.block _ (ltOf hkb) (fun h => hd _ h (.inl rfl))).trans hkb
          have hr := run_endRound (P := P) jump hl3
          rw [hrec] at hr
          have hlt3 : w.heap.size + 1 < W3.heap.size := ltOf hl3
          obtain ⟨W4, hW4⟩ : ∃ W4, W3.putObj (w.heap.size + 1) (.loop (rec (if jump.isNone then .ready else .done) jump)) = W4 := ⟨_, rfl⟩
          have o4 : Only (fun k => k = w.heap.size + 1) W3 W4 := by rw [← hW4]; exact (Only.refl _ _).putObj _ _ (fun _ => rfl)
          have z4 : W4.heap.size = W3.heap.size := by rw [← hW4]; simp
          have hsub4 : ∀ k, R1 k → R0' k ∨ W.heap.size ≤ k := fun k hk => (hf3.sub k hk).imp id (fun h => by have := hoa.size; omega)
          have hlt4 : ∀ k, R1 k → k < W4.heap.size := fun k hk => by have := hf3.lt k hk; omega
          have hoW : Only R W W4 := (how.mono (T := R) (fun i _ h => (hR i).2 (.inr (.inr h)))).trans ((hf3.only.mono (T := R) (fun i _ h => (hR i).2 (.inl h))).trans (o4.mono (T := R) (fun i _ h => (hR i).2 (.inr (.inr h)))) (fun _ _ h => h)) (fun _ _ h => h)
          have hz4 : w.heap.size + 2 ≤ W4.heap.size := by omega
          refine ⟨W4, by rw [← hW4, hrec]; exact hr, o4, z4, by rw [← hW4]; exact World.putObj_heap_same hlt3, (o4.block _ (by omega) (by omega)).trans hk3, hd3, ?_, fun k => R1 k ∨ own2 k, fun k => Iff.rfl, ?_⟩
          · exact ⟨fun k hk => (hsub4 k hk).elim (hf.sub k) (fun h => .inr (by have := hf.only.size; omega)), hlt4,
              hf.only.trans hoW (fun i hi h => ((hR i).1 h).elim (fun h => (hf.sub i h).elim .inl (fun h => absurd hi (by omega))) (fun h => by rcases h with rfl | rfl <;> omega))⟩
          · exact foot1 hR (fun _ => Iff.rfl) hsub4 hlt4 hz4 hoW
        have stepI : ∀ {R1 : Sets} {W3 W4 : World}, Only (fun k => k = w.heap.size + 1) W3 W4 → (∀ k, R1 k → ¬ own2 k) → Only (fun k => (w.heap.size ≤ k ∨ M k) ∧ ¬ R1 k) W3 W4 := fun ho hd => ho.mono fun i _ h => ⟨.inl (by omega), fun h1 => hd _ h1 (.inr h)⟩
        rintro e a3 W3 hp
        cases e with
        | normal =>
          obtain ⟨R1, hf3, hi3⟩ := hp
          obtain ⟨W4, hr, o4, z4, hl4, hk4, hd3, hf4, R2, hR2, hF2⟩ := fin none R1 W3 hf3
          exact ⟨_, W4, hr, R2, hF2, .inl ⟨rfl, R1, hR2, hf4, hd3, hI _ _ _ _ hi3 (stepI o4 hd3), hl4, hk4⟩⟩
        | ret =>
          obtain ⟨R1, hf3, hi3⟩ := hp
          obtain ⟨W4, hr, o4, z4, hl4, hk4, hd3, hf4, R2, hR2, hF2⟩ := fin (some .ret) R1 W3 hf3
          exact ⟨_, W4, hr, R2, hF2, .inr ⟨rfl, .ret, R1, hR2, hf4, hd3, hIx _ _ _ _ _ hi3 (stepI o4 hd3), hl4, hk4⟩⟩
        | exit id =>
          obtain ⟨R1, hf3, hi3⟩ := hp
          obtain ⟨W4, hr, o4, z4, hl4, hk4, hd3, hf4, R2, hR2, hF2⟩ := fin (some (.exit id)) R1 W3 hf3
          exact ⟨_, W4, hr, R2, hF2, .inr ⟨rfl, .exit id, R1, hR2, hf4, hd3, hIx _ _ _ _ _ hi3 (stepI o4 hd3), hl4, hk4⟩⟩
        | goto t =>
          obtain ⟨R1, hf3, hi3⟩ := hp
          obtain ⟨W4, hr, o4, z4, hl4, hk4, hd3, hf4, R2, hR2, hF2⟩ := fin (some (.goto t)) R1 W3 hf3
          exact ⟨_, W4, hr, R2, hF2, .inr ⟨rfl, .goto t, R1, hR2, hf4, hd3, hIx _ _ _ _ _ hi3 (stepI o4 hd3), hl4, hk4⟩⟩
        | panic ch => exact hp.elim
        | outgrown => exact hp.elim
      | exit id => exact he.elim
      | goto t => exact he.elim
      | ret => exact he.elim
      | panic ch => exact he.elim
      | outgrown => exact he.elim
    · rintro e W2 ⟨⟨v, rfl⟩, R', hF, (⟨R0', hR, hf, hd, hi, hl, hk⟩ | ⟨pre, hpre, c, R0', hR, hf, hd, hi, hl, hk⟩)⟩
      · have hend := run_endLoop (P := P) hl (by rw [hrec]; simp)
        rw [hrec] at hend
        refine ⟨none, _, hend, ?_⟩
        have o4 := (Only.refl (fun k => k = w.heap.size + 1) W2).putObj (w.heap.size + 1) (.loop { (rec .ready none) with state := .exhausted }) (fun _ => rfl)
        rw [hrec] at o4
        exact hdone w.heap.size R0' _ (Nat.le_refl _) (fun h => hd _ h (.inl rfl)) ⟨hf.sub, fun k h => by have := hf.lt k h; simpa using this, hf.only.trans o4 (fun i hi h => absurd hi (by omega))⟩
          (hI _ _ _ _ hi (o4.mono fun i _ h => ⟨.inl (by omega), fun h1 => hd _ h1 (.inr h)⟩)) ((o4.block _ (ltOf hk) (by omega)).trans hk)
      · have hend := run_endLoop (P := P) hl (by rw [hrec]; simp)
        rw [hrec] at hend
        refine ⟨some c, _, hend, ?_⟩
        have o4 := (Only.refl (fun k => k = w.heap.size + 1) W2).putObj (w.heap.size + 1) (.loop { (rec .done (some c)) with state := .exhausted }) (fun _ => rfl)
        rw [hrec] at o4
        exact hstop w.heap.size c pre R0' _ (Nat.le_refl _) (fun h => hd _ h (.inl rfl)) hpre ⟨hf.sub, fun k h => by have := hf.lt k h; simpa using this, hf.only.trans o4 (fun i hi h => absurd hi (by omega))⟩
          (hIx _ _ _ _ _ hi (o4.mono fun i _ h => ⟨.inl (by omega), fun h1 => hd _ h1 (.inr h)⟩)) ((o4.block _ (ltOf hk) (by omega)).trans hk)
end Go.Proofs.YtklfojmflmablaaGreatDoor
/- strings.SplitSeq: the pieces of a text, one after the other. -/
namespace Go.Proofs.YtklfojmflmablaaGreatDoor
open Go Go.RowKit Go.Shelf
attribute [local go_sem] Oper.semAt_some

def boxLen (W : World) (B : Nat) : Nat := match W.cell? ⟨B, 0, none⟩ with | some (.string r) => r.size | _ => 0
theorem boxLen_of {W : World} {B : Nat} {t : TypeId} {r : ByteArray} (h : Boxed W B t (.string r)) : boxLen W B = r.size := by
  unfold boxLen
  rw [h.cell]

set_option maxRecDepth 100000 in
set_option maxHeartbeats 1000000 in
theorem splitSeq_iters (s sep : ByteArray) (sB pB vB n₁ : Nat) (w : World) (hn : n₁ ≤ w.heap.size) (h4 : 4 ≤ sB) (hsB : sB < n₁) (hpB : pB < n₁) (hvB : vB < n₁) (hps : pB ≠ sB) (hvs : vB ≠ sB)
    (bs : Boxed w sB 9 (.string s)) (bp : Boxed w pB 9 (.string sep)) (bv : Boxed w vB 3 (.int .i64 0)) (hL : Laid w) (h1 : 1 ≤ sep.size) (h2 : sep.size ≤ 10) (hs : s.size ≤ 1000) :
    ItersM Tryz.prog 222 (fun y => #[y, .pointer (some ⟨pB, 0, none⟩), .pointer (some ⟨sB, 0, none⟩), .pointer (some ⟨vB, 0, none⟩)]) (fun x => #[.string x]) (Lib.splitB sep 0 s.size s) (fun k => k < n₁) (fun k => k = sB) w := by
  intro y J Jx R W hE hle hown hdis hlt hJ
  have hf := hE.form
  obtain ⟨xs, hxs⟩ : ∃ xs, Lib.splitB sep 0 s.size s = xs := ⟨_, rfl⟩
  rw [hxs] at hE ⊢
  have HXS := Lib.hid hxs
  have HBS : Hid (Boxed W sB 9 (.string s)) := Lib.hid ((hown sB hsB).trans bs)
  have HBP : Hid (∀ R' wr, FootM (fun k => k = sB) R W R' wr → Boxed wr pB 9 (.string sep)) := Lib.hid fun R' wr hF => hF.own ((hown pB hpB).trans bp) (fun h => hdis _ h hpB) hps
  have HBV : Hid (∀ R' wr, FootM (fun k => k = sB) R W R' wr → Boxed wr vB 3 (.int .i64 0)) := Lib.hid fun R' wr hF => hF.own ((hown vB hvB).trans bv) (fun h => hdis _ h hvB) hvs
  obtain ⟨⟨m, h0⟩, _, _, hz4⟩ := hL
  have H0 : Hid (∀ R' wr, FootM (fun k => k = sB) R W R' wr → wr.cell? ⟨0, 0, none⟩ = some (.int .i64 m)) := Lib.hid fun R' wr hF => (hF.only.cell (p := ⟨0, 0, none⟩) (by dsimp only; omega) (by dsimp only; rintro (h | h); exact hdis _ h (by omega); omega)).trans ((World.cell?_of_block (hown 0 (by omega))).trans h0)
  have HRS : Hid (∀ R' wr, FootM (fun k => k = sB) R W R' wr → ¬ R' sB) := Lib.hid fun R' wr hF h => (hF.sub _ h).elim (fun h => hdis _ h hsB) (fun h => by omega)
  have HSW := Lib.hid (show sB < W.heap.size by omega)
  have HE := Lib.hid hE
  have HJ := Lib.hid hJ
  have HLT := Lib.hid hlt
  have HNE := Lib.hid hps
  have HNV := Lib.hid hvs
  have hp0 : (sep.size == 0) = false := by simpa using (by omega : sep.size ≠ 0)
  have i0 := hlt
  clear hE hJ hdis hown bs bp bv h0 hz4 hxs hlt hps hvs h4
  have bs0 := HBS.out.cell
  have bp0 := (HBP.out _ _ (FootM.refl i0)).cell
  have hp1 : ((sep.size : Int) == 0) = false := by simpa using (by omega : sep.size ≠ 0)
  clear i0
  refine (callsIn_wide (n := 3)).1 ?_
  obtain ⟨ly, rfl⟩ := hf
  refine callsIn_of_wp Tryz.func222 rfl trivial ?_ rfl
  simp only [Tryz.ntmps222, List.size_toArray, List.length_cons, List.length_nil, Nat.reduceAdd, Nat.reduceSub, Array.replicate_succ, Array.replicate_zero, List.push_toArray, List.append_toArray, List.nil_append, List.cons_append]
  gi_wp2
  gi_loopw [7] (fun i wr => ∃ (k : Nat) (v : Value) (pre : List ByteArray) (rest : ByteArray) (R' : Sets), i = v ∧ rest.size ≤ k ∧ k ≤ 1000 ∧ Hid (xs = pre ++ Lib.splitB sep 0 k rest) ∧ Hid (J pre R' wr) ∧ Hid (FootM (fun k => k = sB) R W R' wr) ∧ Hid (Boxed wr sB 9 (.string rest))) (fun _ wr => boxLen wr sB)
  case atStart => exact ⟨s.size, _, [], s, R, rfl, Nat.le_refl _, hs, Lib.hid (HXS.out.symm), HJ, Lib.hid (FootM.refl HLT.out), HBS⟩
  case round =>
    obtain ⟨k, v, pre, rest, R', rfl, hrk, hk, hxs, hJs, hF, hB⟩ := hrel
    have c0 := hB.out.cell
    have f0 := hB.out.frozen
    have c1 := (HBP.out _ _ hF.out).cell
    have c2 := (HBV.out _ _ hF.out).cell
    have CI := Lib.hid (Tryz.strings_Index rest sep m wr (by omega) (H0.out _ _ hF.out))
    have hmeas := boxLen_of hB.out
    rcases Lib.indexB_cases rest sep with hi | ⟨i, hi, hir⟩
    · have hx : xs = pre ++ [rest] := by rw [hxs.out, Lib.splitB_miss _ _ _ _ hi]
      change Lib.index rest.data.toList sep.data.toList = -1 at hi
      rw [hi] at CI
      have CY := Lib.hid (HE.out.next (x := rest) (pre := pre) (by rw [← hx]; exact List.prefix_refl _) (Nat.le_refl _) hF.out hJs.out wr (Only.refl _ _))
      rw [← hx] at CY
      obtain ⟨fn, tmps, assign, body, hy, hR⟩ := CY.out.yield 2
      gi_wp2_with (first
        | (refine ⟨trivial, ?_⟩; gi_at_call 187; refine (callsIn_wide.2 CI.out).mono ?_; rintro e w2 ⟨rfl, hw⟩; rw [hw]; clear hw)
        | (refine hR.mono ?_; rintro e w3 ⟨R2, hf2, (⟨rfl, hJ2⟩ | ⟨rfl, hJ2⟩)⟩))
      · go_end0
        exact ⟨⟨_, rfl⟩, R2, hF.out.call (Only.refl _ _) hf2, .inl hJ2⟩
      · go_end0
        exact ⟨⟨_, rfl⟩, R2, hF.out.call (Only.refl _ _) hf2, .inr ⟨_, List.prefix_refl _, hJ2⟩⟩
    · have hst : i + sep.size ≤ rest.size := hir
      have hx := hxs.out
      obtain ⟨k, rfl⟩ : ∃ k', k = k' + 1 := ⟨k - 1, by omega⟩
      rw [Lib.splitB_hit _ _ _ _ i hi] at hx
      obtain ⟨A, hA⟩ : ∃ A, rest.extract 0 i = A := ⟨_, rfl⟩
      obtain ⟨C, hC⟩ : ∃ C, rest.extract (i + sep.size) rest.size = C := ⟨_, rfl⟩
      have hCz : C.size = rest.size - (i + sep.size) := by rw [← hC]; simp
      rw [Nat.add_zero, hA, hC] at hx
      change Lib.index rest.data.toList sep.data.toList = i at hi
      rw [hi] at CI
      have CY := Lib.hid (HE.out.next (x := A) (pre := pre) (by rw [hx]; exact ⟨Lib.splitB sep 0 k C, by simp⟩) (Nat.le_refl _) hF.out hJs.out wr (Only.refl _ _))
      obtain ⟨fn, tmps, assign, body, hy, hR⟩ := CY.out.yield 2
      have HX := Lib.hid hx
      clear hx hst hxs
      gi_wp2_with (first
        | (refine ⟨trivial, ?_⟩; gi_at_call 187; refine (callsIn_wide.2 CI.out).mono ?_; rintro e w2 ⟨rfl, hw⟩; rw [hw]; clear hw)
        | (refine hR.mono ?_; rintro e w3 ⟨R2, hf2, hcase⟩; have hF3 := hF.out.call (Only.refl _ _) hf2; have b3 : Boxed w3 sB 9 _ := hf2.box hB.out (HRS.out _ _ hF.out); have d0 := b3.cell; have d1 := b3.frozen; have d2 := (HBP.out _ _ hF3).cell; have HB3 := Lib.hid b3; have HF3 := Lib.hid hF3; clear hF3 b3 c0 f0 c1 c2; rcases hcase with ⟨rfl, hJ2⟩ | ⟨rfl, hJ2⟩))
      · go_roundw
        case rel =>
          refine ⟨k, _, pre ++ [A], C, R2, rfl, by omega, by omega, Lib.hid (by rw [HX.out]; simp), Lib.hid (HE.out.stable _ _ _ _ hJ2 ((Only.refl _ _).setCell _ _ fun _ => ⟨.inr rfl, HRS.out _ _ HF3.out⟩)), Lib.hid (HF3.out.then ((Only.refl _ _).setCell _ _ fun _ => .inr rfl)), Lib.hid (HB3.out.set _)⟩
        case measure =>
          rw [boxLen_of (HB3.out.set _), hmeas]
          omega
      · refine bodyPost_ret (results_none rfl _ _ _) rfl ?_
        exact ⟨⟨_, rfl⟩, R2, HF3.out, .inr ⟨pre ++ [A], by rw [HX.out]; exact ⟨Lib.splitB sep 0 k C, by simp⟩, hJ2⟩⟩

set_option maxRecDepth 100000 in
theorem splitSeq_any (s sep : ByteArray) (w : World) :
    Calls Tryz.prog 175 #[.string s, .string sep] w fun e w' => ∃ B, w.heap.size ≤ B ∧ B + 3 = w'.heap.size ∧ e = .returned (.func (.func 222) #[] #[.pointer (some ⟨B + 1, 0, none⟩), .pointer (some ⟨B, 0, none⟩), .pointer (some ⟨B + 2, 0, none⟩)]) ∧
      Below w.heap.size w w' ∧ Boxed w' B 9 (.string s) ∧ Boxed w' (B + 1) 9 (.string sep) ∧ Boxed w' (B + 2) 3 (.int .i64 0) := by
  go_enter Tryz.func175, Tryz.ntmps175
  go_wp2
  go_ret
  refine ⟨w.heap.size, Nat.le_refl _, by simp, rfl, (((Below.refl _ w).alloc (Nat.le_refl _) _).alloc (by simp) _).alloc (by simp; omega) _, ((Boxed.new w 9 _).alloc _).alloc _, ?_, ?_⟩
  · have := (Boxed.new (w.alloc (.cells #[.string s] 9)) 9 (.string sep)).alloc (.cells #[.int .i64 0] 3)
    rwa [World.size_alloc] at this
  · have := Boxed.new ((w.alloc (.cells #[.string s] 9)).alloc (.cells #[.string sep] 9)) 3 (.int .i64 0)
    rwa [World.size_alloc, World.size_alloc] at this
end Go.Proofs.YtklfojmflmablaaGreatDoor
/- Package arena: base types read; each, from texts to base types. -/
namespace Go.Proofs.YtklfojmflmablaaGreatDoor
open Go Go.RowKit Go.Shelf
attribute [local go_sem] Oper.semAt_some
attribute [local go_sem ↓] append_shut

def cellWd (s : ByteArray) : Bool := s.toList == [99, 101, 108, 108]
/-- What a text looks like as a base type. -/
def rdBase (s : ByteArray) : Bs := ⟨cellWd (cut1 s ⟨#[32]⟩), numOf (cut2 s ⟨#[32]⟩)⟩
theorem cut1_size (s sep : ByteArray) : (cut1 s sep).size ≤ s.size := by
  rcases Lib.indexB_cases s sep with h | ⟨i, h, hi⟩
  · rw [show cut1 s sep = _ from (Lib.cutB_miss s sep h).1]
    exact Nat.le_refl _
  · rw [show cut1 s sep = _ from (Lib.cutB_hit s sep i h).1]
    simp
    omega
theorem cut2_size (s sep : ByteArray) : (cut2 s sep).size ≤ s.size := by
  rcases Lib.indexB_cases s sep with h | ⟨i, h, hi⟩
  · rw [show cut2 s sep = _ from (Lib.cutB_miss s sep h).2.1]
    exact Nat.zero_le _
  · rw [show cut2 s sep = _ from (Lib.cutB_hit s sep i h).2.1]
    simp
theorem Laid.low {w W : World} (h : Laid w) (hb : Below 4 w W) : Laid W := by
  obtain ⟨⟨m, h0⟩, ⟨t2, p2, h2⟩, ⟨t3, p3, h3⟩, h4⟩ := h
  exact ⟨⟨m, (hb.cell (p := ⟨0, 0, none⟩) (by dsimp only; omega)).trans h0⟩, ⟨t2, p2, (hb.cell (p := ⟨2, 0, none⟩) (by dsimp only; omega)).trans h2⟩, ⟨t3, p3, (hb.cell (p := ⟨3, 0, none⟩) (by dsimp only; omega)).trans h3⟩, Nat.le_trans h4 hb.size⟩
theorem results_base173 {tmps : Array Value} {W : World} {B : Nat} {x : Bs} (h : W.heap[B]? = some (.cells #[.bool x.cell, .int .i64 x.n] 24 (0, 0))) (t2 : tmps[2]?.getD undef = .pointer (some ⟨B, 0, none⟩)) :
    (results Tryz.f173 tmps).run Tryz.prog W = .ok (bsV x) W := by
  have c0 := cell_of_row W B 0 _ 24 (0, 0) h
  have c1 := cell_of_row W B 1 _ 24 (0, 0) h
  simp [results, Tryz.results173, t2, go_sem, loadVar, c0, c1, bsV]

set_option maxRecDepth 100000 in
set_option maxHeartbeats 1000000 in
theorem readBase_any (s : ByteArray) (w : World) (hs : s.size ≤ 1000) (h : Laid w) : Calls Tryz.prog 173 #[.string s] w fun e w' => e = .returned (bsV (rdBase s)) ∧ Below w.heap.size w w' := by
  have z1 := cut2_size s ⟨#[32]⟩
  have LW : Hid (∀ W, Below w.heap.size w W → Laid W) := Lib.hid fun W hb => h.later hb
  have C1 : Hid (∀ W, Laid W → Calls Tryz.prog 170 #[.string s, .string ⟨#[32]⟩] W fun e w' => ∃ b, e = .returned (.tuple #[.string (cut1 s ⟨#[32]⟩), .string (cut2 s ⟨#[32]⟩), .bool b]) ∧ Below W.heap.size W w') := Lib.hid fun W h => cut_any s _ W (by omega) h
  have N1 : Hid (∀ W, Laid W → Calls Tryz.prog 171 #[.string (cut2 s ⟨#[32]⟩)] W fun e w' => e = .returned (.int .i64 (numOf (cut2 s ⟨#[32]⟩))) ∧ Below W.heap.size W w') := Lib.hid fun W h => number_any _ W (by omega) h
  unfold rdBase
  obtain ⟨A1, eA1⟩ : ∃ A1, cut1 s ⟨#[32]⟩ = A1 := ⟨_, rfl⟩
  obtain ⟨A2, eA2⟩ : ∃ A2, cut2 s ⟨#[32]⟩ = A2 := ⟨_, rfl⟩
  rw [eA1, eA2] at C1
  rw [eA2] at N1
  rw [eA1, eA2]
  obtain ⟨n, hn⟩ : ∃ n, numOf A2 = n := ⟨_, rfl⟩
  rw [hn] at N1 ⊢
  obtain ⟨c, hc⟩ : ∃ c, cellWd A1 = c := ⟨_, rfl⟩
  rw [hc]
  unfold cellWd at hc
  obtain ⟨w1, hw1⟩ : ∃ w1, w.alloc (.cells #[.bool false, .int .i64 0] 24) = w1 := ⟨_, rfl⟩
  have hb : Below w.heap.size w w1 := by rw [← hw1]; exact (Below.refl _ w).alloc (Nat.le_refl _) _
  have x0 : w1.heap[w.heap.size]? = some (.cells #[.bool false, .int .i64 0] 24 (0, 0)) := by rw [← hw1]; exact World.alloc_heap_new w _
  have HB := Lib.hid hb
  have HX := Lib.hid x0
  have HXL := Lib.hid (Array.getElem?_eq_some_iff.1 x0).1
  clear z1 hs h eA1 eA2 hn hb x0
  go_enter Tryz.func173, Tryz.ntmps173
  go_wp2_with (first
    | (go_at_call 170; with_reducible refine (C1.out _ (LW.out _ HB.out)).mono ?_; rintro e w2 ⟨b1, rfl, hb2⟩; have h02 := HB.out.trans (hb2.mono HB.out.size))
    | (go_at_call 171; ((with_reducible refine (N1.out _ (LW.out _ h02)).mono ?_); rintro e w3 ⟨rfl, hb3⟩; have h03 := h02.trans (hb3.mono h02.size); have x3 : BoxB w3 w.heap.size ⟨false, 0⟩ := (hb3.block _ (Nat.lt_of_lt_of_le HXL.out hb2.size)).trans ((hb2.block _ HXL.out).trans HX.out); obtain ⟨y1, y2, e1, e2, s0, f0, s1, f1, z4, o4⟩ := chain24 x3 ⟨c, n⟩; dsimp only at e1 e2 s0 s1)))
  refine bodyPost_ret (results_base173 (x := ⟨c, n⟩) z4 (by simp)) rfl ?_
  exact ⟨rfl, h03.trans (o4.below _ h03.size (fun b hb h => by omega))⟩

set_option maxRecDepth 100000 in
set_option maxHeartbeats 2000000 in
theorem eachStrBs_any (k B : Nat) (l : List ByteArray) (w : World) (ek : ∀ args w, (callFunc k args).run Tryz.prog w = .ok (.enter k args) w) (hB : B + 3 = w.heap.size) (h4 : 4 ≤ B) (hL : Laid w) (hl : l.length ≤ 1000)
    (hit : ∀ W, Below w.heap.size w W → ItersM Tryz.prog 222 (fun y => (#[] ++ #[y]) ++ #[.pointer (some ⟨B + 1, 0, none⟩), .pointer (some ⟨B, 0, none⟩), .pointer (some ⟨B + 2, 0, none⟩)]) (fun x => #[.string x]) l (fun b => b < w.heap.size) (fun b => b = B) W)
    (f : ByteArray → Bs) (hk : ∀ W x, x ∈ l → Laid W → Calls Tryz.prog k #[.string x] W fun e W' => e = .returned (bsV (f x)) ∧ Below W.heap.size W W') :
    Calls Tryz.prog 206 #[.func (.func 222) #[] #[.pointer (some ⟨B + 1, 0, none⟩), .pointer (some ⟨B, 0, none⟩), .pointer (some ⟨B + 2, 0, none⟩)], .func (.func k) #[] #[]] w fun e w' => ∃ v', e = .returned v' ∧ Below B w w' ∧ w'.ownsRow w.heap.size 24 2 v' l.length (l.flatMap fun x => bsCells (f x)) := by
  have HK := Lib.hid hk
  have HL := Lib.hid hl
  have HBL := Lib.hid hB
  have H4 := Lib.hid h4
  have HLD := Lib.hid hL
  have HI := Lib.hid hit
  obtain ⟨i0, hi, hz0, hz1, hz2⟩ := info_parts info24
  obtain ⟨W0, hW0⟩ : ∃ W0, (w.alloc (.cells #[.func (.func k) #[] #[]] 149)).alloc (.cells #[.slice none 0 0] 62) = W0 := ⟨_, rfl⟩
  have z0 : W0.heap.size = w.heap.size + 1 + 1 := by rw [← hW0]; simp
  have o0 : Below w.heap.size w W0 := by rw [← hW0]; exact ((Below.refl _ w).alloc (Nat.le_refl _) _).alloc (by simp) _
  have x0 : Boxed W0 w.heap.size 149 (.func (.func k) #[] #[]) := by rw [← hW0]; exact (Boxed.new w 149 _).alloc _
  have x1 : Boxed W0 (w.heap.size + 1) 62 (.slice none 0 0) := by
    rw [← hW0]; have := Boxed.new (w.alloc (.cells #[.func (.func k) #[] #[]] 149)) 62 (.slice none 0 0); rwa [World.size_alloc] at this
  have HZ := Lib.hid z0
  have HB0 := Lib.hid o0
  have HX0 := Lib.hid x0
  have HX1 := Lib.hid x1
  have hsz := z0
  clear hk hl hB h4 hL hit z0 o0 x0 x1
  refine (callsIn_wide (n := 3)).1 ?_
  refine callsIn_of_wp_marks Tryz.func206 rfl trivial ?_ rfl
  simp only [Tryz.ntmps206, List.size_toArray, List.length_cons, List.length_nil, Nat.reduceAdd, Nat.reduceSub, Array.replicate_succ, Array.replicate_zero, List.push_toArray, List.append_toArray, List.nil_append, List.cons_append]
  clear hsz
  gi_wp2
  refine wpIn_rangeM (gf := 222) (first := #[]) (lb := #[.pointer (some ⟨B + 1, 0, none⟩), .pointer (some ⟨B, 0, none⟩), .pointer (some ⟨B + 2, 0, none⟩)]) rfl (enters_of Tryz.func222 (by kernel_rfl) rfl) (HI.out _ HB0.out) (fun _ => rfl)
    (fun pre R W => Acc w.heap.size (w.heap.size + 1) 62 24 2 pre.length (pre.flatMap fun x => bsCells (f x)) R W) (fun _ _ _ _ => False)
    (fun _ _ _ _ hj ho => Acc.stable (B := 0) hj (ho.mono fun _ _ h => ⟨Nat.zero_le _, h.2⟩)) (fun _ _ _ _ _ hj _ => hj)
    (fun b => b = w.heap.size + 1) (fun b hb => by have := HZ.out; omega) (fun b hb => by have := HZ.out; omega) (fun b hb => by omega) (Acc.new _ _ 62 24 2 HX1.out) ?round ?done ?stop
  case round =>
    intro ln pre x R3 W3 hx hft hi hnl hlt hle
    have HMEM : Hid (x ∈ l) := Lib.hid (hx.subset (by simp))
    gi_wp2
    refine ⟨Only.refl _ _, fun W5 hsz ho1 ho2 hi5 => ?_⟩
    obtain ⟨va, hva, hra, hRa⟩ := hi5
    have h3 : Boxed W3 w.heap.size 149 (.func (.func k) #[] #[]) := hft.own HX0.out (by omega) (by have := HBL.out; omega)
    have bk : Boxed W5 w.heap.size 149 (.func (.func k) #[] #[]) := (ho2.block _ (Array.getElem?_eq_some_iff.1 h3).1 (by have := HZ.out; omega)).trans h3
    have ck := bk.cell
    have ca := hva.cell
    have fa := hva.frozen
    have h35 : Only (fun b => b = w.heap.size + 1 ∨ b = B ∨ W0.heap.size ≤ b) W0 W5 := (hft.only.trans (T := fun k => k = ln) ho2 (fun i hi h => by omega)).mono (fun b hb h => by omega)
    have HL5 : Hid (Laid W5) := Lib.hid ((HLD.out.later HB0.out).low (h35.below 4 (by have := HBL.out; have := H4.out; have := HZ.out; omega) (fun b hb h => by have := HBL.out; have := H4.out; have := HZ.out; omega)))
    have HS5 : Hid (W5.heap.size = W3.heap.size) := Lib.hid hsz
    have HVA := Lib.hid hva
    have HRA := Lib.hid hra
    have HR := Lib.hid hRa
    have HFT := Lib.hid hft
    have HX := Lib.hid hx
    have CK : Hid (∀ W, Laid W → CallsIn (Fence.wide.inRound ln) 2 Tryz.prog k #[.string x] W fun e W' => e = .returned (bsV (f x)) ∧ Below W.heap.size W W') := Lib.hid fun W hW => CallsIn.inRound ln (callsIn_wide.2 (HK.out W x HMEM.out hW))
    unfold bsV at CK
    clear hsz ho1 ho2 hva hra hRa h3 bk hft hx hi h35
    have hmx : Tryz.prog.follows .mixedOrders = true := by kernel_rfl
    have HPL : Hid (pre.length ≤ 1000) := Lib.hid (by have := HX.out.length_le; have := HL.out; simp at *; omega)
    gi_wp2
    gi_region_with_o (refine ⟨trivial, ?_⟩; gi_at_fn k; refine (CK.out _ (HL5.out.later ((Below.refl _ W5).drew))).mono ?_; rintro e W6 ⟨rfl, hb6⟩; have hb56 : Below W5.heap.size W5 W6 := ((Below.refl _ W5).drew).trans hb6; have hv6 : Boxed W6 _ _ _ := (hb56.block _ HVA.out.lt).trans HVA.out; have ca6 := hv6.cell; have fa6 := hv6.frozen; have hv7 := hv6.alloc (.cells #[.bool (f x).cell, .int .i64 (f x).n] 24); have ca7 := hv7.cell; have fa7 := hv7.frozen; clear hv6 hv7; obtain ⟨v', w8, hrun, hown', hgrow, _, hat⟩ := run_append_own_at (P := Tryz.prog) (W6.alloc (.cells #[.bool (f x).cell, .int .i64 (f x).n] 24)) w.heap.size 62 62 24 i0 _ 2 16 Tryz.underlying62 hi hz0 hz1 hz2 rfl (by decide) va pre.length (pre.flatMap fun x => bsCells (f x)) ((row_below HRA.out hb56).alloc _) ⟨W6.heap.size, 0, none⟩ 1 1 [.bool (f x).cell, .int .i64 (f x).n] rfl (cells_newE _ _ _) (by simp [Value.oneCell']) (by have := HPL.out; unfold maxLen; omega) (by have := HPL.out; omega) (by have := HB0.out.size; have := HFT.out.only.size; have := HS5.out; have := hb56.size; simp; omega); obtain ⟨g', cap', rfl⟩ := ownsRow_succ hown'; rw [append_shut] at hrun; obtain ⟨hb8, R', hA, hF⟩ := Acc.appended (by decide) HVA.out HRA.out HR.out ((Only.of_below (S := fun _ => False) hb56).alloc _) hown' hgrow hat; have cb8 := hb8.cell; have fb8 := hb8.frozen)
    all_goals gi_wp2
    all_goals (refine ⟨R', hF, ?_⟩; dsimp only; rw [List.length_append, List.flatMap_append, List.flatMap_cons, List.flatMap_nil, List.append_nil]; exact hA)
  case done =>
    intro D R3 W3 hD hnD hft hJ3 hK
    obtain ⟨v3, hv3, hr3, hR3⟩ := hJ3
    have cv3 := hv3.cell
    have HR3 := Lib.hid hr3
    have HFT := Lib.hid hft
    have HKK := Lib.hid hK
    clear hr3 hft hK
    gi_wp2
    have hB3 : Below B w W3 := (HB0.out.mono (by have := HBL.out; omega)).trans (HFT.out.only.below _ (by have := HZ.out; have := HBL.out; omega) (fun b hb h => by have := HBL.out; omega))
    refine ⟨by simp, .inl ⟨_, _, rfl, run_takeDeferred HKK.out, ?_⟩⟩
    exact ⟨_, results_tmp rfl _ _ _, v3, rfl, hB3.trans (belowK_b (w := w) (by have := HBL.out; omega) W3 D _ _ (by have := HZ.out; omega) HKK.out rfl rfl), ownsRow_putObj HR3.out _ HKK.out rfl⟩
  case stop =>
    rintro D c pre R3 W3 hD hnD hpre hft h hK
    exact h.elim
end Go.Proofs.YtklfojmflmablaaGreatDoor
/- Package arena: types read. -/
namespace Go.Proofs.YtklfojmflmablaaGreatDoor
open Go Go.RowKit Go.Shelf

def cut3 (s sep : ByteArray) : Bool := (Lib.cut s.data.toList sep.data.toList).2.2
theorem cut_any3 (s sep : ByteArray) (w : World) (hs : s.size < 4294967281) (h : Laid w) : Calls Tryz.prog 170 #[.string s, .string sep] w fun e w' => e = .returned (.tuple #[.string (cut1 s sep), .string (cut2 s sep), .bool (cut3 s sep)]) ∧ Below w.heap.size w w' := by
  obtain ⟨⟨m, h0⟩, _⟩ := h
  refine (Tryz.strings_Cut s sep m w hs h0).mono ?_
  rintro e w' ⟨rfl, n, rfl⟩
  exact ⟨rfl, below_drewN n w⟩
def trimP (s p : ByteArray) : ByteArray := ⟨(Lib.trimPrefix s.data.toList p.data.toList).toArray⟩
theorem trimP_size (s p : ByteArray) : (trimP s p).size ≤ s.size := by
  unfold trimP Lib.trimPrefix
  rw [Lib.size_eq s]
  simp only [ByteArray.size, List.size_toArray]
  split
  · simp
  · exact Nat.le_refl _
def pieces (s sep : ByteArray) : List ByteArray := Lib.splitB sep 0 s.size s
theorem pieces_len (s sep : ByteArray) : (pieces s sep).length ≤ s.size + 1 := Lib.splitB_length_le _ _ _ _
theorem splitB_size (sep : ByteArray) : ∀ (k : Nat) (s : ByteArray), ∀ x ∈ Lib.splitB sep 0 k s, x.size ≤ s.size
  | 0, s, x, hx => by
    rw [Lib.splitB_zero, List.mem_singleton] at hx
    rw [hx]
    exact Nat.le_refl _
  | k + 1, s, x, hx => by
    rcases Lib.indexB_cases s sep with h | ⟨i, h, hi⟩
    · rw [Lib.splitB_miss _ _ _ _ h, List.mem_singleton] at hx
      rw [hx]
      exact Nat.le_refl _
    · rw [Lib.splitB_hit _ _ _ _ i h, List.mem_cons] at hx
      rcases hx with rfl | hx
      · simp
        omega
      · have := splitB_size sep k _ x hx
        simp at this
        omega
theorem pieces_size {s sep x : ByteArray} (h : x ∈ pieces s sep) : x.size ≤ s.size := splitB_size _ _ _ _ h
def arrowB : ByteArray := ⟨#[41, 32, 45, 62, 32]⟩
def commaB : ByteArray := ⟨#[44, 32]⟩
def semiB : ByteArray := ⟨#[59, 32]⟩
/-- What a text looks like as a type. -/
def rdType (s : ByteArray) : Ty := if cut3 s arrowB then ⟨(pieces (trimP (cut1 s arrowB) ⟨#[40]⟩) commaB).map rdBase, rdBase (cut2 s arrowB)⟩ else ⟨[], rdBase s⟩

theorem row_only2 {W W' : World} {n₀ k size : Nat} {e : TypeId} {v : Value} {xs : List Value} {S : Nat → Prop} (h : W.ownsRow n₀ e size v k xs) (ho : Only S W W') (hS : ∀ b, n₀ ≤ b → ¬ S b) : W'.ownsRow n₀ e size v k xs := by
  refine ⟨h.1, ?_⟩
  rcases h.2 with hn | ⟨g, cap, cur, e, hb', hg, rest⟩
  · exact .inl hn
  · exact .inr ⟨g, cap, cur, e, hb', (ho.block g (Array.getElem?_eq_some_iff.1 hg).1 (hS g hb')).trans hg, rest⟩
theorem row_low {W : World} {n₀ n₁ k size : Nat} {e : TypeId} {v : Value} {xs : List Value} (h : W.ownsRow n₀ e size v k xs) (hn : n₁ ≤ n₀) : W.ownsRow n₁ e size v k xs := by
  refine ⟨h.1, ?_⟩
  rcases h.2 with hn | ⟨g, cap, cur, e, hb', rest⟩
  · exact .inl hn
  · exact .inr ⟨g, cap, cur, e, Nat.le_trans hn hb', rest⟩
theorem row_slice {W : World} {n₀ k size : Nat} {e : TypeId} {v : Value} {xs : List Value} (h : W.ownsRow n₀ e size v k xs) : ∃ A c, v = .slice A k c := by
  rcases h.2 with ⟨rfl, rfl⟩ | ⟨g, cap, cur, rfl, _⟩
  · exact ⟨none, 0, rfl⟩
  · exact ⟨_, _, rfl⟩
theorem flat_map (l : List ByteArray) : (l.flatMap fun x => bsCells (rdBase x)) = (l.map rdBase).flatMap bsCells := by rw [List.flatMap_map]

theorem results_type176 {tmps : Array Value} {W : World} {B : Nat} {v : Value} {x : Bs} (h : W.heap[B]? = some (.cells #[v, .bool x.cell, .int .i64 x.n] 64 (0, 0))) (t2 : tmps[2]?.getD undef = .pointer (some ⟨B, 0, none⟩)) :
    (results Tryz.f176 tmps).run Tryz.prog W = .ok (tyV v x) W := by
  have c0 := cell_of_row W B 0 _ 64 (0, 0) h
  have c1 := cell_of_row W B 1 _ 64 (0, 0) h
  have c2 := cell_of_row W B 2 _ 64 (0, 0) h
  simp at c0 c1 c2
  simp [results, Tryz.results176, t2, go_sem, loadVar, c0, c1, c2, tyV]

set_option maxRecDepth 100000 in
set_option maxHeartbeats 1000000 in
theorem readType_none (s : ByteArray) (w : World) (hs : s.size ≤ 900) (h : Laid w) (hc : cut3 s arrowB = false) :
    Calls Tryz.prog 176 #[.string s] w fun e w' => ∃ pv, e = .returned (tyV pv (rdType s).result) ∧ w'.ownsRow w.heap.size 24 2 pv (rdType s).params.length ((rdType s).params.flatMap bsCells) ∧ Below w.heap.size w w' := by
  have hT : rdType s = ⟨[], rdBase s⟩ := by unfold rdType; rw [if_neg (by rw [hc]; simp)]
  rw [hT]
  have LW : Hid (∀ W, Below w.heap.size w W → Laid W) := Lib.hid fun W hb => h.later hb
  have C1 : Hid (∀ W, Laid W → Calls Tryz.prog 170 #[.string s, .string ⟨#[41, 32, 45, 62, 32]⟩] W fun e w' => e = .returned (.tuple #[.string (cut1 s arrowB), .string (cut2 s arrowB), .bool false]) ∧ Below W.heap.size W w') := Lib.hid fun W h => by
    have := cut_any3 s arrowB W (by omega) h
    rw [hc] at this
    exact this
  have N1 : Hid (∀ W, Laid W → Calls Tryz.prog 173 #[.string s] W fun e w' => e = .returned (bsV (rdBase s)) ∧ Below W.heap.size W w') := Lib.hid fun W h => readBase_any s W (by omega) h
  obtain ⟨A1, eA1⟩ : ∃ A1, cut1 s arrowB = A1 := ⟨_, rfl⟩
  obtain ⟨A2, eA2⟩ : ∃ A2, cut2 s arrowB = A2 := ⟨_, rfl⟩
  rw [eA1, eA2] at C1
  obtain ⟨b, hb⟩ : ∃ b, rdBase s = b := ⟨_, rfl⟩
  rw [hb] at N1 ⊢
  dsimp only
  unfold bsV at N1
  obtain ⟨w1, hw1⟩ : ∃ w1, w.alloc (.cells #[.slice none 0 0, .bool false, .int .i64 0] 64) = w1 := ⟨_, rfl⟩
  have hb : Below w.heap.size w w1 := by rw [← hw1]; exact (Below.refl _ w).alloc (Nat.le_refl _) _
  have x0 : w1.heap[w.heap.size]? = some (.cells #[.slice none 0 0, .bool (⟨false, 0⟩ : Bs).cell, .int .i64 (⟨false, 0⟩ : Bs).n] 64 (0, 0)) := by rw [← hw1]; exact World.alloc_heap_new w _
  have HB := Lib.hid hb
  have HX := Lib.hid x0
  have HXL := Lib.hid (Array.getElem?_eq_some_iff.1 x0).1
  clear hs h hc hT eA1 eA2 hb x0
  go_enter Tryz.func176, Tryz.ntmps176
  go_wp2_with (first
    | (go_at_call 170; (with_reducible refine (C1.out _ (LW.out _ HB.out)).mono ?_); rintro e w2 ⟨rfl, hb2⟩; have h02 := HB.out.trans (hb2.mono HB.out.size))
    | (go_at_call 173; go_loud ((with_reducible refine (N1.out _ (LW.out _ h02)).mono ?_); rintro e w3 ⟨rfl, hb3⟩; have h03 := h02.trans (hb3.mono h02.size); have x3 := (hb3.block _ (Nat.lt_of_lt_of_le HXL.out hb2.size)).trans ((hb2.block _ HXL.out).trans HX.out); obtain ⟨y1, y2, y3, e1, e2, e3, s0, f0, s1, f1, s2, f2, z4, o4⟩ := chain64 (b0 := ⟨false, 0⟩) x3 (.slice none 0 0) b; dsimp only at s1 s2)))
  refine bodyPost_ret (results_type176 (x := b) z4 (by simp)) rfl ?_
  exact ⟨_, rfl, World.ownsRow_nil _ _ _ _, h03.trans (o4.below _ h03.size (fun b hb h => by omega))⟩

set_option maxRecDepth 100000 in
set_option maxHeartbeats 1000000 in
theorem readType_some (s : ByteArray) (w : World) (hs : s.size ≤ 900) (h : Laid w) (hc : cut3 s arrowB = true) :
    Calls Tryz.prog 176 #[.string s] w fun e w' => ∃ pv, e = .returned (tyV pv (rdType s).result) ∧ w'.ownsRow w.heap.size 24 2 pv (rdType s).params.length ((rdType s).params.flatMap bsCells) ∧ Below w.heap.size w w' := by
  have hT : rdType s = ⟨(pieces (trimP (cut1 s arrowB) ⟨#[40]⟩) commaB).map rdBase, rdBase (cut2 s arrowB)⟩ := by unfold rdType; rw [if_pos hc]
  rw [hT]
  have LW : Hid (∀ W, Below w.heap.size w W → Laid W) := Lib.hid fun W hb => h.later hb
  have C1 : Hid (∀ W, Laid W → Calls Tryz.prog 170 #[.string s, .string ⟨#[41, 32, 45, 62, 32]⟩] W fun e w' => e = .returned (.tuple #[.string (cut1 s arrowB), .string (cut2 s arrowB), .bool true]) ∧ Below W.heap.size W w') := Lib.hid fun W h => by
    have := cut_any3 s arrowB W (by omega) h
    rw [hc] at this
    exact this
  have z1 := cut1_size s arrowB
  have z2 := cut2_size s arrowB
  have z3 := trimP_size (cut1 s arrowB) ⟨#[40]⟩
  have N1 : Hid (∀ W, Laid W → Calls Tryz.prog 173 #[.string (cut2 s arrowB)] W fun e w' => e = .returned (bsV (rdBase (cut2 s arrowB))) ∧ Below W.heap.size W w') := Lib.hid fun W h => readBase_any _ W (by omega) h
  have T1 : Hid (∀ W, Calls Tryz.prog 205 #[.string (cut1 s arrowB), .string ⟨#[40]⟩] W fun e w' => e = .returned (.string (trimP (cut1 s arrowB) ⟨#[40]⟩)) ∧ w' = W) := Lib.hid fun W => Tryz.strings_TrimPrefix _ _ W
  obtain ⟨A1, eA1⟩ : ∃ A1, cut1 s arrowB = A1 := ⟨_, rfl⟩
  obtain ⟨A2, eA2⟩ : ∃ A2, cut2 s arrowB = A2 := ⟨_, rfl⟩
  obtain ⟨P, eP⟩ : ∃ P, trimP A1 ⟨#[40]⟩ = P := ⟨_, rfl⟩
  rw [eA1, eA2] at C1
  rw [eA2] at N1
  rw [eA1, eP] at T1 z3
  rw [eA1, eA2, eP]
  rw [eA1] at z1
  have hlen := pieces_len P commaB
  have CE : Hid (∀ W B, Laid W → w.heap.size ≤ B → B + 3 = W.heap.size → 4 ≤ B → Boxed W B 9 (.string P) → Boxed W (B + 1) 9 (.string ⟨#[44, 32]⟩) → Boxed W (B + 2) 3 (.int .i64 0) →
      Calls Tryz.prog 206 #[.func (.func 222) #[] #[.pointer (some ⟨B + 1, 0, none⟩), .pointer (some ⟨B, 0, none⟩), .pointer (some ⟨B + 2, 0, none⟩)], .func (.func 173) #[] #[]] W fun e w' => ∃ A' c', e = .returned (.slice A' (pieces P commaB).length c') ∧ Below B W w' ∧ Hid (w'.ownsRow W.heap.size 24 2 (.slice A' (pieces P commaB).length c') (pieces P commaB).length (((pieces P commaB).map rdBase).flatMap bsCells))) :=
    Lib.hid fun W B hLW hwB hB3 hB4 b0 b1 b2 => by
      have := eachStrBs_any 173 B (pieces P commaB) W (enters_of Tryz.func173 (by kernel_rfl) rfl) hB3 hB4 hLW (by omega) (fun W2 hW2 => splitSeq_iters P commaB B (B + 1) (B + 2) W.heap.size W2 hW2.size hB4 (by omega) (by omega) (by omega) (by omega) (by omega)
        ((hW2.block _ b0.lt).trans b0) ((hW2.block _ b1.lt).trans b1) ((hW2.block _ b2.lt).trans b2) (hLW.later hW2) (by decide) (by decide) (by omega)) rdBase (fun W2 x hx hL2 => readBase_any x W2 (by have := pieces_size hx; omega) hL2)
      refine this.mono ?_
      rintro e w' ⟨v', rfl, hb', hr⟩
      obtain ⟨A', c', rfl⟩ := row_slice hr
      exact ⟨A', c', rfl, hb', Lib.hid (by rw [← flat_map]; exact hr)⟩
  obtain ⟨n, hn⟩ : ∃ n, (pieces P commaB).length = n := ⟨_, rfl⟩
  obtain ⟨ps, hps⟩ : ∃ ps, (pieces P commaB).map rdBase = ps := ⟨_, rfl⟩
  have hpl : ps.length = n := by rw [← hps, ← hn, List.length_map]
  rw [hn, hps] at CE
  rw [hps]
  obtain ⟨b, hb⟩ : ∃ b, rdBase A2 = b := ⟨_, rfl⟩
  rw [hb] at N1 ⊢
  dsimp only
  rw [hpl]
  unfold bsV at N1
  obtain ⟨w1, hw1⟩ : ∃ w1, w.alloc (.cells #[.slice none 0 0, .bool false, .int .i64 0] 64) = w1 := ⟨_, rfl⟩
  have hb : Below w.heap.size w w1 := by rw [← hw1]; exact (Below.refl _ w).alloc (Nat.le_refl _) _
  have x0 : w1.heap[w.heap.size]? = some (.cells #[.slice none 0 0, .bool (⟨false, 0⟩ : Bs).cell, .int .i64 (⟨false, 0⟩ : Bs).n] 64 (0, 0)) := by rw [← hw1]; exact World.alloc_heap_new w _
  have HB := Lib.hid hb
  have HX := Lib.hid x0
  have HXL := Lib.hid (Array.getElem?_eq_some_iff.1 x0).1
  have H4 := Lib.hid h.2.2.2
  clear hs h hc hT eA1 eA2 hb x0 z1 z2 z3 hlen hn hps hpl eP
  go_enter Tryz.func176, Tryz.ntmps176
  go_wp2_with (first
    | (go_at_call 170; (with_reducible refine (C1.out _ (LW.out _ HB.out)).mono ?_); rintro e w2 ⟨rfl, hb2⟩; have h02 := HB.out.trans (hb2.mono HB.out.size))
    | (go_at_call 205; (with_reducible refine (T1.out _).mono ?_); rintro e w3 ⟨rfl, hw3⟩; rw [hw3]; clear hw3)
    | (go_at_call 175; (with_reducible refine (splitSeq_any _ _ _).mono ?_); rintro e w4 ⟨B, hB1, hB2, rfl, hb4, q0, q1, q2⟩; have h04 := h02.trans (hb4.mono h02.size))
    | (go_at_call 206; (with_reducible refine (CE.out _ B (LW.out _ h04) (Nat.le_trans h02.size hB1) hB2 (Nat.le_trans H4.out (Nat.le_trans h02.size hB1)) q0 q1 q2).mono ?_); rintro e w5 ⟨A', c', rfl, hb5, hr5⟩; have h05 := h04.trans (hb5.mono (Nat.le_trans h02.size hB1)))
    | (go_at_call 173; go_loud ((with_reducible refine (N1.out _ (LW.out _ h05)).mono ?_); rintro e w6 ⟨rfl, hb6⟩; have h06 := h05.trans (hb6.mono h05.size); have x3 := (hb6.block _ (Nat.lt_of_lt_of_le HXL.out (Nat.le_trans hb2.size (Nat.le_trans hb4.size hb5.size)))).trans ((hb5.block _ (Nat.lt_of_lt_of_le HXL.out (Nat.le_trans hb2.size hB1))).trans ((hb4.block _ (Nat.lt_of_lt_of_le HXL.out hb2.size)).trans ((hb2.block _ HXL.out).trans HX.out))); obtain ⟨y1, y2, y3, e1, e2, e3, s0, f0, s1, f1, s2, f2, z4, o4⟩ := chain64 (b0 := ⟨false, 0⟩) x3 (.slice A' n c') b; dsimp only at s1 s2)))
  refine bodyPost_ret (results_type176 (x := b) z4 (by simp)) rfl ?_
  refine ⟨_, rfl, row_low (row_only2 (row_below hr5.out hb6) o4 ?_) h04.size, h06.trans (o4.below _ h06.size (fun b hb h => by omega))⟩
  intro b hb h
  have := HXL.out
  have := hb2.size
  have := hb4.size
  omega
end Go.Proofs.YtklfojmflmablaaGreatDoor
/- Package arena: each, from texts to types. -/
namespace Go.Proofs.YtklfojmflmablaaGreatDoor
open Go Go.RowKit Go.Shelf
attribute [local go_sem] Oper.semAt_some
attribute [local go_sem ↓] append_shut

theorem readType_any (s : ByteArray) (w : World) (hs : s.size ≤ 900) (h : Laid w) :
    Calls Tryz.prog 176 #[.string s] w fun e w' => ∃ pv, e = .returned (tyV pv (rdType s).result) ∧ w'.ownsRow w.heap.size 24 2 pv (rdType s).params.length ((rdType s).params.flatMap bsCells) ∧ Below w.heap.size w w' := by
  cases hc : cut3 s arrowB with
  | true => exact readType_some s w hs h hc
  | false => exact readType_none s w hs h hc

theorem row_block {W W' : World} {n₀ k size : Nat} {e : TypeId} {v : Value} {xs : List Value} (h : W.ownsRow n₀ e size v k xs) (hb : ∀ g, v.ownBlock = some g → W'.heap[g]? = W.heap[g]?) : W'.ownsRow n₀ e size v k xs := by
  refine ⟨h.1, ?_⟩
  rcases h.2 with hn | ⟨g, cap, cur, rfl, hb', hg, rest⟩
  · exact .inl hn
  · exact .inr ⟨g, cap, cur, rfl, hb', (hb g rfl).trans hg, rest⟩
/-- As Acc.appended, with the new row's block named. -/
theorem Acc.appended2 {n₀ bl : Nat} {t e : TypeId} {size k m : Nat} {xs ys : List Value} {R : Sets} {W W2 w1 : World} {v v' : Value} (hte : t ≠ e) (hv : Boxed W bl t v) (hr : W.ownsRow n₀ e size v k xs) (hR : ∀ b, R b ↔ (b = bl ∨ some b = v.ownBlock))
    (h2 : Only (fun _ => False) W W2) (hown' : w1.ownsRow n₀ e size v' m ys) (hgrow : W2.grownBy w1 v.ownBlock) (hat : v'.ownBlock = v.ownBlock ∨ v'.ownBlock = some W2.heap.size) :
    Boxed w1 bl t v ∧ ∃ R', Acc n₀ bl t e size m ys R' (w1.setCell ⟨bl, 0, none⟩ v') ∧ Foot R W R' (w1.setCell ⟨bl, 0, none⟩ v') ∧ (∀ b, R' b → R b ∨ b = W2.heap.size) := by
  have hv2 : Boxed W2 bl t v := (h2.block bl hv.lt (fun f => f)).trans hv
  have hv1 : Boxed w1 bl t v := hv2.kept hgrow (hv.not_row hte hr)
  have hA : Acc n₀ bl t e size m ys (fun b => b = bl ∨ some b = v'.ownBlock) (w1.setCell ⟨bl, 0, none⟩ v') :=
    ⟨v', hv1.set v', hown'.kept (grownBy_setCell' w1 bl v') (.inr (hv1.not_row hte hown').symm), fun _ => Iff.rfl⟩
  have hN : ∀ b, (b = bl ∨ some b = v'.ownBlock) → R b ∨ b = W2.heap.size := by
    rintro b (rfl | hb)
    · exact .inl ((hR b).2 (.inl rfl))
    · rcases hat with ha | ha
      · exact .inl ((hR b).2 (.inr (by rw [hb, ha])))
      · rw [ha] at hb
        injection hb with hb
        exact .inr hb
  refine ⟨hv1, _, hA, ⟨fun b hb => (hN b hb).imp id (fun e => by have := h2.size; omega), hA.lt, ?_⟩, hN⟩
  exact ((h2.mono (T := R) fun _ _ f => f.elim).grown hgrow fun b hb hl => (hR b).2 (.inr hb.symm)).setCell _ _ fun _ => (hR bl).2 (.inl rfl)

/-- The types of some texts, each with params that are its own; R holds all their blocks. -/
def AccTy (n₀ bl : Nat) (pre : List ByteArray) (R : Sets) (W : World) : Prop :=
  ∃ (zs : List (Value × Ty)) (RA : Sets), zs.map Prod.snd = pre.map rdType ∧ Acc n₀ bl 22 64 3 zs.length (zs.flatMap tyCells) RA W ∧ (∀ b, RA b → R b) ∧
    ∀ z ∈ zs, W.ownsRow n₀ 24 2 z.1 z.2.params.length (z.2.params.flatMap bsCells) ∧ ∀ g, z.1.ownBlock = some g → R g ∧ ¬ RA g ∧ g < W.heap.size
theorem AccTy.new (n₀ bl : Nat) {W : World} (h : Boxed W bl 22 (.slice none 0 0)) : AccTy n₀ bl [] (fun b => b = bl) W :=
  ⟨[], _, rfl, Acc.new _ _ _ _ _ h, fun _ h => h, fun z hz => by cases hz⟩
theorem AccTy.stable {n₀ bl : Nat} {pre : List ByteArray} {R : Sets} {W W' : World} {S : Sets} (h : AccTy n₀ bl pre R W) (ho : Only (fun b => S b ∧ ¬ R b) W W') : AccTy n₀ bl pre R W' := by
  obtain ⟨zs, RA, h1, h2, h3, h4⟩ := h
  refine ⟨zs, RA, h1, h2.stable (B := 0) (ho.mono fun _ _ h => ⟨Nat.zero_le _, fun hr => h.2 (h3 _ hr)⟩), h3, fun z hz => ?_⟩
  obtain ⟨hr, hg⟩ := h4 z hz
  exact ⟨row_block hr (fun g hgo => ho.block g (hg g hgo).2.2 (fun h => h.2 (hg g hgo).1)), fun g hgo => ⟨(hg g hgo).1, (hg g hgo).2.1, Nat.lt_of_lt_of_le (hg g hgo).2.2 ho.size⟩⟩
/-- What holds behind the append of a type that was just read. -/
theorem AccTy.appended {n₀ bl : Nat} {pre : List ByteArray} {x : ByteArray} {R : Sets} {W W6 w8 : World} {va v' pv : Value} {zs : List (Value × Ty)} {RA : Sets} (hn : n₀ ≤ W.heap.size) (hRlt : ∀ b, R b → b < W.heap.size)
    (h1 : zs.map Prod.snd = pre.map rdType) (hv : Boxed W bl 22 va) (hr : W.ownsRow n₀ 64 3 va zs.length (zs.flatMap tyCells)) (hRA : ∀ b, RA b ↔ (b = bl ∨ some b = va.ownBlock)) (h3 : ∀ b, RA b → R b)
    (h4 : ∀ z ∈ zs, W.ownsRow n₀ 24 2 z.1 z.2.params.length (z.2.params.flatMap bsCells) ∧ ∀ g, z.1.ownBlock = some g → R g ∧ ¬ RA g ∧ g < W.heap.size)
    (h56 : Below W.heap.size W W6) (hp : W6.ownsRow W.heap.size 24 2 pv (rdType x).params.length ((rdType x).params.flatMap bsCells)) (o : Obj) (hown' : w8.ownsRow n₀ 64 3 v' (zs.length + 1) (zs.flatMap tyCells ++ tyCells (pv, rdType x)))
    (hgrow : (W6.alloc o).grownBy w8 va.ownBlock) (hat : v'.ownBlock = va.ownBlock ∨ v'.ownBlock = some (W6.alloc o).heap.size) :
    Boxed w8 bl 22 va ∧ ∃ R', Foot R W R' (w8.setCell ⟨bl, 0, none⟩ v') ∧ AccTy n₀ bl (pre ++ [x]) R' (w8.setCell ⟨bl, 0, none⟩ v') := by
  obtain ⟨hb8, RB, hA, hF, hN⟩ := Acc.appended2 (by decide) hv hr hRA ((Only.of_below (S := fun _ => False) h56).alloc o) hown' hgrow hat
  have hbl : bl < W.heap.size := hv.lt
  have hvb : ∀ g, va.ownBlock = some g → g < W.heap.size := fun g hg => hRlt g (h3 g ((hRA g).2 (.inr hg.symm)))
  have hpg : ∀ g, pv.ownBlock = some g → W.heap.size ≤ g ∧ g < W6.heap.size := fun g hg => by
    have := hp.lt g hg
    exact ⟨this.1, this.2⟩
  have hz8 : W6.heap.size + 1 ≤ w8.heap.size := by have := hgrow.size; simpa using this
  have hblk : ∀ g, pv.ownBlock = some g → (w8.setCell ⟨bl, 0, none⟩ v').heap[g]? = W6.heap[g]? := fun g hg => by
    obtain ⟨hg1, hg2⟩ := hpg g hg
    rw [Below.heap_setCell _ _ _ _ (by dsimp only; omega), hgrow.block g (by simp; omega) (fun e => by have := hvb g e.symm; omega)]
    exact Below.heap_alloc _ _ _ hg2
  refine ⟨hb8, fun b => RB b ∨ R b ∨ pv.ownBlock = some b, ⟨?_, ?_, hF.only.mono fun i _ h => h3 i h⟩, ⟨zs ++ [(pv, rdType x)], RB, by rw [List.map_append, List.map_append, h1]; rfl, ?_, fun b hb => .inl hb, ?_⟩⟩
  · rintro b (hb | hb | hb)
    · exact (hF.sub b hb).imp (h3 b) id
    · exact .inl hb
    · exact .inr (hpg b hb).1
  · rintro b (hb | hb | hb)
    · exact hF.lt b hb
    · exact Nat.lt_of_lt_of_le (hRlt b hb) hF.only.size
    · have := (hpg b hb).2
      simp [World.setCell]
      omega
  · rw [List.length_append, List.flatMap_append, List.flatMap_cons, List.flatMap_nil, List.append_nil]
    exact hA
  · intro z hz
    rcases List.mem_append.1 hz with hz | hz
    · obtain ⟨hr, hg⟩ := h4 z hz
      refine ⟨row_block hr (fun g hgo => hF.only.block g (hg g hgo).2.2 (hg g hgo).2.1), fun g hgo => ⟨.inr (.inl (hg g hgo).1), fun h => ?_, Nat.lt_of_lt_of_le (hg g hgo).2.2 hF.only.size⟩⟩
      rcases hF.sub g h with h | h
      · exact (hg g hgo).2.1 h
      · have := (hg g hgo).2.2
        omega
    · rw [List.mem_singleton] at hz
      subst hz
      refine ⟨row_block (row_low hp hn) hblk, fun g hgo => ⟨.inr (.inr hgo), fun h => ?_, ?_⟩⟩
      · obtain ⟨hg1, hg2⟩ := hpg g hgo
        rcases hN g h with h | h
        · have := hRlt g (h3 g h)
          omega
        · simp at h
          omega
      · have := (hpg g hgo).2
        simp [World.setCell]
        omega

set_option maxRecDepth 100000 in
set_option maxHeartbeats 2000000 in
theorem eachStrTy_any (k B : Nat) (l : List ByteArray) (w : World) (ek : ∀ args w, (callFunc k args).run Tryz.prog w = .ok (.enter k args) w) (hB : B + 3 = w.heap.size) (h4 : 4 ≤ B) (hL : Laid w) (hl : l.length ≤ 1000)
    (hit : ∀ W, Below w.heap.size w W → ItersM Tryz.prog 222 (fun y => (#[] ++ #[y]) ++ #[.pointer (some ⟨B + 1, 0, none⟩), .pointer (some ⟨B, 0, none⟩), .pointer (some ⟨B + 2, 0, none⟩)]) (fun x => #[.string x]) l (fun b => b < w.heap.size) (fun b => b = B) W)
    (hk : ∀ W x, x ∈ l → Laid W → Calls Tryz.prog k #[.string x] W fun e W' => ∃ pv, e = .returned (tyV pv (rdType x).result) ∧ W'.ownsRow W.heap.size 24 2 pv (rdType x).params.length ((rdType x).params.flatMap bsCells) ∧ Below W.heap.size W W') :
    Calls Tryz.prog 174 #[.func (.func 222) #[] #[.pointer (some ⟨B + 1, 0, none⟩), .pointer (some ⟨B, 0, none⟩), .pointer (some ⟨B + 2, 0, none⟩)], .func (.func k) #[] #[]] w fun e w' => ∃ (v' : Value) (zs : List (Value × Ty)), e = .returned v' ∧ Below B w w' ∧ zs.map Prod.snd = l.map rdType ∧ w'.ownsRow w.heap.size 64 3 v' zs.length (zs.flatMap tyCells) ∧ ∀ z ∈ zs, w'.ownsRow w.heap.size 24 2 z.1 z.2.params.length (z.2.params.flatMap bsCells) := by
  have HK := Lib.hid hk
  have HL := Lib.hid hl
  have HBL := Lib.hid hB
  have H4 := Lib.hid h4
  have HLD := Lib.hid hL
  have HI := Lib.hid hit
  obtain ⟨i0, hi', hz0, hz1, hz2⟩ := info_parts info64
  obtain ⟨W0, hW0⟩ : ∃ W0, (w.alloc (.cells #[.func (.func k) #[] #[]] 150)).alloc (.cells #[.slice none 0 0] 22) = W0 := ⟨_, rfl⟩
  have z0 : W0.heap.size = w.heap.size + 1 + 1 := by rw [← hW0]; simp
  have o0 : Below w.heap.size w W0 := by rw [← hW0]; exact ((Below.refl _ w).alloc (Nat.le_refl _) _).alloc (by simp) _
  have x0 : Boxed W0 w.heap.size 150 (.func (.func k) #[] #[]) := by rw [← hW0]; exact (Boxed.new w 150 _).alloc _
  have x1 : Boxed W0 (w.heap.size + 1) 22 (.slice none 0 0) := by
    rw [← hW0]; have := Boxed.new (w.alloc (.cells #[.func (.func k) #[] #[]] 150)) 22 (.slice none 0 0); rwa [World.size_alloc] at this
  have HZ := Lib.hid z0
  have HB0 := Lib.hid o0
  have HX0 := Lib.hid x0
  have HX1 := Lib.hid x1
  have hsz := z0
  clear hk hl hB h4 hL hit z0 o0 x0 x1
  refine (callsIn_wide (n := 3)).1 ?_
  refine callsIn_of_wp_marks Tryz.func174 rfl trivial ?_ rfl
  simp only [Tryz.ntmps174, List.size_toArray, List.length_cons, List.length_nil, Nat.reduceAdd, Nat.reduceSub, Array.replicate_succ, Array.replicate_zero, List.push_toArray, List.append_toArray, List.nil_append, List.cons_append]
  clear hsz
  gi_wp2
  refine wpIn_rangeM (gf := 222) (first := #[]) (lb := #[.pointer (some ⟨B + 1, 0, none⟩), .pointer (some ⟨B, 0, none⟩), .pointer (some ⟨B + 2, 0, none⟩)]) rfl (enters_of Tryz.func222 (by kernel_rfl) rfl) (HI.out _ HB0.out) (fun _ => rfl)
    (fun pre R W => AccTy w.heap.size (w.heap.size + 1) pre R W) (fun _ _ _ _ => False)
    (fun _ _ _ _ hj ho => AccTy.stable hj ho) (fun _ _ _ _ _ hj _ => hj)
    (fun b => b = w.heap.size + 1) (fun b hb => by have := HZ.out; omega) (fun b hb => by have := HZ.out; omega) (fun b hb => by omega) (AccTy.new _ _ HX1.out) ?round ?done ?stop
  case round =>
    intro ln pre x R3 W3 hx hft hi hnl hlt hle
    have HMEM : Hid (x ∈ l) := Lib.hid (hx.subset (by simp))
    gi_wp2
    refine ⟨Only.refl _ _, fun W5 hsz ho1 ho2 hi5 => ?_⟩
    obtain ⟨zs, RA, hz1', ⟨va, hva, hra, hRa⟩, hRR, hz4'⟩ := hi5
    have h3 : Boxed W3 w.heap.size 150 (.func (.func k) #[] #[]) := hft.own HX0.out (by omega) (by have := HBL.out; omega)
    have bk : Boxed W5 w.heap.size 150 (.func (.func k) #[] #[]) := (ho2.block _ (Array.getElem?_eq_some_iff.1 h3).1 (by have := HZ.out; omega)).trans h3
    have ck := bk.cell
    have ca := hva.cell
    have fa := hva.frozen
    have h35 : Only (fun b => b = w.heap.size + 1 ∨ b = B ∨ W0.heap.size ≤ b) W0 W5 := (hft.only.trans (T := fun k => k = ln) ho2 (fun i hi h => by omega)).mono (fun b hb h => by omega)
    have HL5 : Hid (Laid W5) := Lib.hid ((HLD.out.later HB0.out).low (h35.below 4 (by have := HBL.out; have := H4.out; have := HZ.out; omega) (fun b hb h => by have := HBL.out; have := H4.out; have := HZ.out; omega)))
    have HS5 : Hid (W5.heap.size = W3.heap.size) := Lib.hid hsz
    have HVA := Lib.hid hva
    have HRA := Lib.hid hra
    have HZ1 := Lib.hid hz1'
    have HRR := Lib.hid hRR
    have HZ4 := Lib.hid hz4'
    have HZL : Hid (zs.length = pre.length) := Lib.hid (by have := congrArg List.length hz1'; simpa using this)
    have HLT : Hid (∀ b, R3 b → b < W5.heap.size) := Lib.hid fun b hb => by have := hft.lt b hb; omega
    have HR := Lib.hid hRa
    have HFT := Lib.hid hft
    have HX := Lib.hid hx
    have CK : Hid (∀ W, Laid W → CallsIn (Fence.wide.inRound ln) 2 Tryz.prog k #[.string x] W fun e W' => ∃ pv, e = .returned (tyV pv (rdType x).result) ∧ W'.ownsRow W.heap.size 24 2 pv (rdType x).params.length ((rdType x).params.flatMap bsCells) ∧ Below W.heap.size W W') := Lib.hid fun W hW => CallsIn.inRound ln (callsIn_wide.2 (HK.out W x HMEM.out hW))
    obtain ⟨T, hT⟩ : ∃ T, rdType x = T := ⟨_, rfl⟩
    rw [hT] at CK
    unfold tyV at CK
    clear hsz ho1 ho2 hva hra hRa h3 bk hft hx h35 hz1' hRR hz4'
    have hmx : Tryz.prog.follows .mixedOrders = true := by kernel_rfl
    have HPL : Hid (pre.length ≤ 1000) := Lib.hid (by have := HX.out.length_le; have := HL.out; simp at *; omega)
    gi_wp2
    gi_region_with_o (refine ⟨trivial, ?_⟩; gi_at_fn k; refine (CK.out _ (HL5.out.later ((Below.refl _ W5).drew))).mono ?_; rintro e W6 ⟨pv, rfl, hrow, hb6⟩; obtain ⟨A2, c2, rfl⟩ := row_slice hrow; have HROW := Lib.hid hrow; clear hrow; have hb56 : Below W5.heap.size W5 W6 := ((Below.refl _ W5).drew).trans hb6; have hv6 : Boxed W6 _ _ _ := (hb56.block _ HVA.out.lt).trans HVA.out; have ca6 := hv6.cell; have fa6 := hv6.frozen; have hv7 := hv6.alloc (.cells #[.slice A2 T.params.length c2, .bool T.result.cell, .int .i64 T.result.n] 64); have ca7 := hv7.cell; have fa7 := hv7.frozen; clear hv6 hv7; obtain ⟨v', w8, hrun, hown', hgrow, _, hat⟩ := run_append_own_at (P := Tryz.prog) (W6.alloc (.cells #[.slice A2 T.params.length c2, .bool T.result.cell, .int .i64 T.result.n] 64)) w.heap.size 22 22 64 i0 _ 3 40 Tryz.underlying22 hi' hz0 hz1 hz2 rfl (by decide) va zs.length (zs.flatMap tyCells) ((row_below HRA.out hb56).alloc _) ⟨W6.heap.size, 0, none⟩ 1 1 [.slice A2 T.params.length c2, .bool T.result.cell, .int .i64 T.result.n] rfl (cells_newE _ _ _) (by simp [Value.oneCell']) (by have := HPL.out; have := HZL.out; unfold maxLen; omega) (by have := HPL.out; have := HZL.out; omega) (by have := HB0.out.size; have := HFT.out.only.size; have := HS5.out; have := hb56.size; simp; omega); obtain ⟨g', cap', rfl⟩ := ownsRow_succ hown'; rw [append_shut] at hrun; obtain ⟨hb8, R', hF, hA⟩ := AccTy.appended (x := x) (pv := .slice A2 T.params.length c2) (by have := HB0.out.size; have := HFT.out.only.size; have := HS5.out; omega) HLT.out HZ1.out HVA.out HRA.out HR.out HRR.out HZ4.out hb56 (by rw [hT]; exact HROW.out) _ (by rw [hT]; exact hown') hgrow hat; have cb8 := hb8.cell; have fb8 := hb8.frozen)
    all_goals gi_wp2
    all_goals exact ⟨R', hF, hA⟩
  case done =>
    intro D R3 W3 hD hnD hft hJ3 hK
    obtain ⟨zs, RA, hm3, ⟨v3, hv3, hr3, hR3⟩, hRR3, hz3⟩ := hJ3
    have HM3 := Lib.hid hm3
    have HZ3 := Lib.hid hz3
    clear hz3 hm3
    have cv3 := hv3.cell
    have HR3 := Lib.hid hr3
    have HFT := Lib.hid hft
    have HKK := Lib.hid hK
    clear hr3 hft hK
    gi_wp2
    have hB3 : Below B w W3 := (HB0.out.mono (by have := HBL.out; omega)).trans (HFT.out.only.below _ (by have := HZ.out; have := HBL.out; omega) (fun b hb h => by have := HBL.out; omega))
    refine ⟨by simp, .inl ⟨_, _, rfl, run_takeDeferred HKK.out, ?_⟩⟩
    exact ⟨_, results_tmp rfl _ _ _, v3, zs, rfl, hB3.trans (belowK_b (w := w) (by have := HBL.out; omega) W3 D _ _ (by have := HZ.out; omega) HKK.out rfl rfl), HM3.out, ownsRow_putObj HR3.out _ HKK.out rfl, fun z hz => ownsRow_putObj (HZ3.out z hz).1 _ HKK.out rfl⟩
  case stop =>
    rintro D c pre R3 W3 hD hnD hpre hft h hK
    exact h.elim
end Go.Proofs.YtklfojmflmablaaGreatDoor
/- Package arena: arenas read. -/
namespace Go.Proofs.YtklfojmflmablaaGreatDoor
open Go Go.RowKit Go.Shelf

def jumpsB : ByteArray := ⟨#[59, 32, 106, 117, 109, 112, 115]⟩
def trimS (s p : ByteArray) : ByteArray := ⟨(Lib.trimSuffix s.data.toList p.data.toList).toArray⟩
def hasS (s p : ByteArray) : Bool := Lib.hasSuffix s.data.toList p.data.toList
theorem trimS_size (s p : ByteArray) : (trimS s p).size ≤ s.size := by
  unfold trimS Lib.trimSuffix
  rw [Lib.size_eq s]
  simp only [ByteArray.size, List.size_toArray]
  split
  · simp
  · exact Nat.le_refl _
/-- What a text looks like as an arena. -/
def rdArena (s : ByteArray) : Ar := ⟨if cut3 (trimS s jumpsB) semiB then (pieces (cut2 (trimS s jumpsB) semiB) semiB).map rdType else [], rdBase (cut1 (trimS s jumpsB) semiB), hasS s jumpsB⟩

theorem results_arena114 {tmps : Array Value} {W : World} {B : Nat} {v : Value} {x : Bs} {ju : Bool} (h : BoxA W B v x ju) (t2 : tmps[2]?.getD undef = .pointer (some ⟨B, 0, none⟩)) :
    (results Tryz.f114 tmps).run Tryz.prog W = .ok (arV v x ju) W := by
  have c0 := cell_of_row W B 0 _ 26 (0, 0) h
  have c1 := cell_of_row W B 1 _ 26 (0, 0) h
  have c2 := cell_of_row W B 2 _ 26 (0, 0) h
  have c3 := cell_of_row W B 3 _ 26 (0, 0) h
  simp at c0 c1 c2 c3
  simp [results, Tryz.results114, t2, go_sem, loadVar, c0, c1, c2, c3, arV]

set_option maxRecDepth 100000 in
set_option maxHeartbeats 1000000 in
theorem readArena_none (s : ByteArray) (w : World) (hs : s.size ≤ 800) (h : Laid w) (hc : cut3 (trimS s jumpsB) semiB = false) :
    Calls Tryz.prog 114 #[.string s] w fun e w' => ∃ A n c, e = .returned (arV (.slice A n c) (rdArena s).root (rdArena s).jumps) ∧ Hid (∀ W', Only (fun b => b < w.heap.size) w' W' → TyIn W' W'.heap.size (.slice A n c) (rdArena s).ids) ∧ Below w.heap.size w w' := by
  have hT : rdArena s = ⟨[], rdBase (cut1 (trimS s jumpsB) semiB), hasS s jumpsB⟩ := by unfold rdArena; rw [if_neg (by rw [hc]; simp)]
  rw [hT]
  have LW : Hid (∀ W, Below w.heap.size w W → Laid W) := Lib.hid fun W hb => h.later hb
  have z0 := trimS_size s jumpsB
  have z1 := cut1_size (trimS s jumpsB) semiB
  have S1 : Hid (∀ W, Calls Tryz.prog 172 #[.string s, .string ⟨#[59, 32, 106, 117, 109, 112, 115]⟩] W fun e w' => e = .returned (.tuple #[.string (trimS s jumpsB), .bool (hasS s jumpsB)]) ∧ w' = W) := Lib.hid fun W => Tryz.strings_CutSuffix s jumpsB W (by omega)
  have C1 : Hid (∀ W, Laid W → Calls Tryz.prog 170 #[.string (trimS s jumpsB), .string ⟨#[59, 32]⟩] W fun e w' => e = .returned (.tuple #[.string (cut1 (trimS s jumpsB) semiB), .string (cut2 (trimS s jumpsB) semiB), .bool false]) ∧ Below W.heap.size W w') := Lib.hid fun W h => by
    have := cut_any3 (trimS s jumpsB) semiB W (by omega) h
    rw [hc] at this
    exact this
  have N1 : Hid (∀ W, Laid W → Calls Tryz.prog 173 #[.string (cut1 (trimS s jumpsB) semiB)] W fun e w' => e = .returned (bsV (rdBase (cut1 (trimS s jumpsB) semiB))) ∧ Below W.heap.size W w') := Lib.hid fun W h => readBase_any _ W (by omega) h
  obtain ⟨S, eS⟩ : ∃ S, trimS s jumpsB = S := ⟨_, rfl⟩
  obtain ⟨ju, ej⟩ : ∃ ju, hasS s jumpsB = ju := ⟨_, rfl⟩
  rw [eS, ej] at S1
  rw [eS] at C1 N1
  rw [eS, ej]
  obtain ⟨A1, eA1⟩ : ∃ A1, cut1 S semiB = A1 := ⟨_, rfl⟩
  obtain ⟨A2, eA2⟩ : ∃ A2, cut2 S semiB = A2 := ⟨_, rfl⟩
  rw [eA1, eA2] at C1
  rw [eA1] at N1 ⊢
  obtain ⟨b, hb⟩ : ∃ b, rdBase A1 = b := ⟨_, rfl⟩
  rw [hb] at N1 ⊢
  dsimp only
  unfold bsV at N1
  obtain ⟨w1, hw1⟩ : ∃ w1, w.alloc (.cells #[.slice none 0 0, .bool false, .int .i64 0, .bool false] 26) = w1 := ⟨_, rfl⟩
  have hb : Below w.heap.size w w1 := by rw [← hw1]; exact (Below.refl _ w).alloc (Nat.le_refl _) _
  have x0 : BoxA w1 w.heap.size (.slice none 0 0) ⟨false, 0⟩ false := by rw [← hw1]; exact World.alloc_heap_new w _
  have HB := Lib.hid hb
  have HX := Lib.hid x0
  have HXL := Lib.hid x0.lt
  clear hs h hc hT eS ej eA1 eA2 hb x0 z0 z1
  go_enter Tryz.func114, Tryz.ntmps114
  go_wp2_with (first
    | (go_at_call 172; (with_reducible refine (S1.out _).mono ?_); rintro e w2 ⟨rfl, hw2⟩; rw [hw2]; clear hw2)
    | (go_at_call 170; (with_reducible refine (C1.out _ (LW.out _ HB.out)).mono ?_); rintro e w3 ⟨rfl, hb3⟩; have h03 := HB.out.trans (hb3.mono HB.out.size))
    | (go_at_call 173; (with_reducible refine (N1.out _ (LW.out _ h03)).mono ?_); rintro e w4 ⟨rfl, hb4⟩; have h04 := h03.trans (hb4.mono h03.size); have x4 : BoxA w4 w.heap.size (.slice none 0 0) ⟨false, 0⟩ false := (hb4.block _ (Nat.lt_of_lt_of_le HXL.out hb3.size)).trans ((hb3.block _ HXL.out).trans HX.out); have x5 : BoxA (w4.alloc (.cells #[.slice none 0 0, .bool b.cell, .int .i64 b.n, .bool ju] 26)) w.heap.size (.slice none 0 0) ⟨false, 0⟩ false := (Below.heap_alloc _ _ _ x4.lt).trans x4; obtain ⟨y1, y2, y3, y4, e1, e2, e3, e4, s0, f0, s1, f1, s2, f2, s3, f3, z4, o4⟩ := chain26 x5 (.slice none 0 0) b ju; dsimp only at s1 s2))
  refine bodyPost_ret (results_arena114 (x := b) z4 (by simp)) rfl ?_
  have h05 := h04.alloc h04.size (.cells #[.slice none 0 0, .bool b.cell, .int .i64 b.n, .bool ju] 26)
  exact ⟨_, _, _, rfl, Lib.hid fun W' ho => ⟨none, 0, rfl, fun i x hx => by simp at hx⟩, h05.trans (o4.below _ h05.size (fun b hb h => by omega))⟩

set_option maxRecDepth 100000 in
set_option maxHeartbeats 1000000 in
theorem readArena_some (s : ByteArray) (w : World) (hs : s.size ≤ 800) (h : Laid w) (hc : cut3 (trimS s jumpsB) semiB = true) :
    Calls Tryz.prog 114 #[.string s] w fun e w' => ∃ A n c, e = .returned (arV (.slice A n c) (rdArena s).root (rdArena s).jumps) ∧ Hid (∀ W', Only (fun b => b < w.heap.size) w' W' → TyIn W' W'.heap.size (.slice A n c) (rdArena s).ids) ∧ Below w.heap.size w w' := by
  have hT : rdArena s = ⟨(pieces (cut2 (trimS s jumpsB) semiB) semiB).map rdType, rdBase (cut1 (trimS s jumpsB) semiB), hasS s jumpsB⟩ := by unfold rdArena; rw [if_pos hc]
  rw [hT]
  have LW : Hid (∀ W, Below w.heap.size w W → Laid W) := Lib.hid fun W hb => h.later hb
  have z0 := trimS_size s jumpsB
  have z1 := cut1_size (trimS s jumpsB) semiB
  have z2 := cut2_size (trimS s jumpsB) semiB
  have S1 : Hid (∀ W, Calls Tryz.prog 172 #[.string s, .string ⟨#[59, 32, 106, 117, 109, 112, 115]⟩] W fun e w' => e = .returned (.tuple #[.string (trimS s jumpsB), .bool (hasS s jumpsB)]) ∧ w' = W) := Lib.hid fun W => Tryz.strings_CutSuffix s jumpsB W (by omega)
  have C1 : Hid (∀ W, Laid W → Calls Tryz.prog 170 #[.string (trimS s jumpsB), .string ⟨#[59, 32]⟩] W fun e w' => e = .returned (.tuple #[.string (cut1 (trimS s jumpsB) semiB), .string (cut2 (trimS s jumpsB) semiB), .bool true]) ∧ Below W.heap.size W w') := Lib.hid fun W h => by
    have := cut_any3 (trimS s jumpsB) semiB W (by omega) h
    rw [hc] at this
    exact this
  have N1 : Hid (∀ W, Laid W → Calls Tryz.prog 173 #[.string (cut1 (trimS s jumpsB) semiB)] W fun e w' => e = .returned (bsV (rdBase (cut1 (trimS s jumpsB) semiB))) ∧ Below W.heap.size W w') := Lib.hid fun W h => readBase_any _ W (by omega) h
  obtain ⟨S, eS⟩ : ∃ S, trimS s jumpsB = S := ⟨_, rfl⟩
  obtain ⟨ju, ej⟩ : ∃ ju, hasS s jumpsB = ju := ⟨_, rfl⟩
  rw [eS, ej] at S1
  rw [eS] at C1 N1 z0 z1 z2
  rw [eS, ej]
  obtain ⟨A1, eA1⟩ : ∃ A1, cut1 S semiB = A1 := ⟨_, rfl⟩
  obtain ⟨A2, eA2⟩ : ∃ A2, cut2 S semiB = A2 := ⟨_, rfl⟩
  rw [eA1, eA2] at C1
  rw [eA1] at N1
  rw [eA2] at z2
  rw [eA1, eA2]
  have hlen := pieces_len A2 semiB
  have CE : Hid (∀ W B, Laid W → w.heap.size ≤ B → B + 3 = W.heap.size → 4 ≤ B → Boxed W B 9 (.string A2) → Boxed W (B + 1) 9 (.string ⟨#[59, 32]⟩) → Boxed W (B + 2) 3 (.int .i64 0) →
      Calls Tryz.prog 174 #[.func (.func 222) #[] #[.pointer (some ⟨B + 1, 0, none⟩), .pointer (some ⟨B, 0, none⟩), .pointer (some ⟨B + 2, 0, none⟩)], .func (.func 176) #[] #[]] W fun e w' => ∃ A' n c', e = .returned (.slice A' n c') ∧ Below B W w' ∧ Hid (∀ W', Only (fun b => b < W.heap.size) w' W' → TyIn W' W'.heap.size (.slice A' n c') ((pieces A2 semiB).map rdType))) :=
    Lib.hid fun W B hLW hwB hB3 hB4 b0 b1 b2 => by
      have := eachStrTy_any 176 B (pieces A2 semiB) W (enters_of Tryz.func176 (by kernel_rfl) rfl) hB3 hB4 hLW (by omega) (fun W2 hW2 => splitSeq_iters A2 semiB B (B + 1) (B + 2) W.heap.size W2 hW2.size hB4 (by omega) (by omega) (by omega) (by omega) (by omega)
        ((hW2.block _ b0.lt).trans b0) ((hW2.block _ b1.lt).trans b1) ((hW2.block _ b2.lt).trans b2) (hLW.later hW2) (by decide) (by decide) (by omega)) (fun W2 x hx hL2 => readType_any x W2 (by have := pieces_size hx; omega) hL2)
      refine this.mono ?_
      rintro e w' ⟨v', zs, rfl, hb', hm, hr, hz⟩
      obtain ⟨A', c', rfl⟩ := row_slice hr
      refine ⟨A', _, c', rfl, hb', Lib.hid fun W' ho => ?_⟩
      rw [← hm]
      exact tyIn_own (row_only2 hr ho (fun b hb h => by omega)) (fun z hzm => bsIn_own (row_only2 (hz z hzm) ho (fun b hb h => by omega)))
  obtain ⟨ids, hids⟩ : ∃ ids, (pieces A2 semiB).map rdType = ids := ⟨_, rfl⟩
  rw [hids] at CE ⊢
  obtain ⟨b, hb⟩ : ∃ b, rdBase A1 = b := ⟨_, rfl⟩
  rw [hb] at N1 ⊢
  dsimp only
  unfold bsV at N1
  obtain ⟨w1, hw1⟩ : ∃ w1, w.alloc (.cells #[.slice none 0 0, .bool false, .int .i64 0, .bool false] 26) = w1 := ⟨_, rfl⟩
  have hb : Below w.heap.size w w1 := by rw [← hw1]; exact (Below.refl _ w).alloc (Nat.le_refl _) _
  have x0 : BoxA w1 w.heap.size (.slice none 0 0) ⟨false, 0⟩ false := by rw [← hw1]; exact World.alloc_heap_new w _
  have HB := Lib.hid hb
  have HX := Lib.hid x0
  have HXL := Lib.hid x0.lt
  have H4 := Lib.hid h.2.2.2
  clear hs h hc hT eS ej eA1 eA2 hb x0 z0 z1 z2 hlen hids
  go_enter Tryz.func114, Tryz.ntmps114
  go_wp2_with (first
    | (go_at_call 172; (with_reducible refine (S1.out _).mono ?_); rintro e w2 ⟨rfl, hw2⟩; rw [hw2]; clear hw2)
    | (go_at_call 170; (with_reducible refine (C1.out _ (LW.out _ HB.out)).mono ?_); rintro e w3 ⟨rfl, hb3⟩; have h03 := HB.out.trans (hb3.mono HB.out.size))
    | (go_at_call 173; (with_reducible refine (N1.out _ (LW.out _ h03)).mono ?_); rintro e w4 ⟨rfl, hb4⟩; have h04 := h03.trans (hb4.mono h03.size); have x4 : BoxA w4 w.heap.size (.slice none 0 0) ⟨false, 0⟩ false := (hb4.block _ (Nat.lt_of_lt_of_le HXL.out hb3.size)).trans ((hb3.block _ HXL.out).trans HX.out);
        have h05 := h04.alloc h04.size (.cells #[.slice none 0 0, .bool b.cell, .int .i64 b.n, .bool ju] 26); have x5 : BoxA (w4.alloc (.cells #[.slice none 0 0, .bool b.cell, .int .i64 b.n, .bool ju] 26)) w.heap.size (.slice none 0 0) ⟨false, 0⟩ false := (Below.heap_alloc _ _ _ x4.lt).trans x4; have q5 : BoxA (w4.alloc (.cells #[.slice none 0 0, .bool b.cell, .int .i64 b.n, .bool ju] 26)) w4.heap.size (.slice none 0 0) b ju := World.alloc_heap_new w4 _; have HX5 := Lib.hid x5; have HQ5 := Lib.hid q5; have HS4 := Lib.hid x4.lt; clear x4 x5 q5)
    | (go_at_call 175; (with_reducible refine (splitSeq_any _ _ _).mono ?_); rintro e w6 ⟨B, hB1, hB2, rfl, hb6, q0, q1, q2⟩; have h06 := h05.trans (hb6.mono h05.size))
    | (go_at_call 174; (with_reducible refine (CE.out _ B (LW.out _ h06) (Nat.le_trans h05.size hB1) hB2 (Nat.le_trans H4.out (Nat.le_trans h05.size hB1)) q0 q1 q2).mono ?_); rintro e w7 ⟨A', n, c', rfl, hb7, HT⟩; have h07 := h06.trans (hb7.mono (Nat.le_trans h05.size hB1));
        have x7 : BoxA w7 w.heap.size (.slice none 0 0) ⟨false, 0⟩ false := (hb7.block _ (Nat.lt_of_lt_of_le HX5.out.lt hB1)).trans ((hb6.block _ HX5.out.lt).trans HX5.out); have q7 : BoxA w7 w4.heap.size (.slice none 0 0) b ju := (hb7.block _ (Nat.lt_of_lt_of_le HQ5.out.lt hB1)).trans ((hb6.block _ HQ5.out.lt).trans HQ5.out);
        have g0 := cell_of_row w7 _ 0 _ 26 (0, 0) q7; have g1 : w7.frozen? ⟨w4.heap.size, 0, none⟩ = false := (by simp [World.frozen?, show w7.heap[w4.heap.size]? = _ from q7]); obtain ⟨w8, hw8⟩ : ∃ w8, w7.setCell ⟨w4.heap.size, 0, none⟩ (.slice A' n c') = w8 := ⟨_, rfl⟩; have q8 : BoxA w8 w4.heap.size (.slice A' n c') b ju := (by rw [← hw8]; exact heap_setCell_same w7 w4.heap.size 0 _ 26 (.slice A' n c') q7); have o8 : Only (fun k => k = w4.heap.size) w7 w8 := (by rw [← hw8]; exact (Only.refl _ _).setCell _ _ fun _ => rfl); have x8 : BoxA w8 w.heap.size (.slice none 0 0) ⟨false, 0⟩ false := (o8.block _ x7.lt (by have := HS4.out; omega)).trans x7;
        have d0 := cell_of_row w8 _ 0 _ 26 (0, 0) q8; have d1 := cell_of_row w8 _ 1 _ 26 (0, 0) q8; have d2 := cell_of_row w8 _ 2 _ 26 (0, 0) q8; have d3 := cell_of_row w8 _ 3 _ 26 (0, 0) q8; obtain ⟨y1, y2, y3, y4, e1, e2, e3, e4, s0, f0, s1, f1, s2, f2, s3, f3, z4, o4⟩ := chain26 x8 (.slice A' n c') b ju; dsimp only at s1 s2))
  refine bodyPost_ret (results_arena114 (x := b) z4 (by simp)) rfl ?_
  have hlt := HS4.out
  have z6 := hb6.size
  have z5 : (w4.alloc (.cells #[.slice none 0 0, .bool b.cell, .int .i64 b.n, .bool ju] 26)).heap.size = w4.heap.size + 1 := by simp
  have z7 := h03.size
  have z8 := hb4.size
  exact ⟨_, _, _, rfl, Lib.hid fun W' ho => HT.out _ (((o8.mono fun i _ h => by omega).trans o4 (fun i hi h => by omega)).trans ho (fun i hi h => by omega)), h07.trans ((o8.below _ h07.size (fun b hb h => by have := h04.size; omega)).trans (o4.below _ (Nat.le_trans h07.size o8.size) (fun b hb h => by omega)))⟩

theorem readArena_any (s : ByteArray) (w : World) (hs : s.size ≤ 800) (h : Laid w) :
    Calls Tryz.prog 114 #[.string s] w fun e w' => ∃ A n c, e = .returned (arV (.slice A n c) (rdArena s).root (rdArena s).jumps) ∧ Hid (∀ W', Only (fun b => b < w.heap.size) w' W' → TyIn W' W'.heap.size (.slice A n c) (rdArena s).ids) ∧ Below w.heap.size w w' := by
  cases hc : cut3 (trimS s jumpsB) semiB with
  | true => exact readArena_some s w hs h hc
  | false => exact readArena_none s w hs h hc
end Go.Proofs.YtklfojmflmablaaGreatDoor
/- Package arena: Read. -/
namespace Go.Proofs.YtklfojmflmablaaGreatDoor
open Go Go.RowKit Go.Shelf

theorem rdArena_ids (s : ByteArray) : (rdArena s).ids.length ≤ s.size + 1 := by
  unfold rdArena
  dsimp only
  split
  · rw [List.length_map]
    have := pieces_len (cut2 (trimS s jumpsB) semiB) semiB
    have := cut2_size (trimS s jumpsB) semiB
    have := trimS_size s jumpsB
    omega
  · exact Nat.zero_le _
theorem rdType_params (s : ByteArray) : (rdType s).params.length ≤ s.size + 1 := by
  unfold rdType
  split
  · dsimp only
    rw [List.length_map]
    have := pieces_len (trimP (cut1 s arrowB) ⟨#[40]⟩) commaB
    have := trimP_size (cut1 s arrowB) ⟨#[40]⟩
    have := cut1_size s arrowB
    omega
  · exact Nat.zero_le _
theorem rdArena_params (s : ByteArray) : ∀ t ∈ (rdArena s).ids, t.params.length ≤ s.size + 1 := by
  unfold rdArena
  dsimp only
  split
  · intro t ht
    obtain ⟨x, hx, rfl⟩ := List.mem_map.1 ht
    have := rdType_params x
    have := pieces_size hx
    have := cut2_size (trimS s jumpsB) semiB
    have := trimS_size s jumpsB
    omega
  · intro t ht
    cases ht

theorem bytes_ne2 {T s : ByteArray} (h : ¬ T = s) : (T.toList == s.toList) = false := by
  rw [beq_eq_false_iff_ne]
  intro e
  rw [Lib.toList_data, Lib.toList_data] at e
  exact h (ByteArray.ext (Array.toList_inj.1 e))
/-- What Read hands back. -/
def readR (s : ByteArray) : Ar × Int := if (showRes (rdArena s)).2 = 0 ∧ (showRes (rdArena s)).1 = s then (rdArena s, 0) else (zeroAr, 4)

theorem results_read46 {tmps : Array Value} {W : World} {B : Nat} {v : Value} {root : Bs} {ju : Bool} {e : Int} (h : BoxA W B v root ju) (t2 : tmps[2]?.getD undef = .pointer (some ⟨B, 0, none⟩)) (t3 : tmps[3]?.getD undef = .int .i64 e) :
    (results Tryz.f46 tmps).run Tryz.prog W = .ok (.tuple #[arV v root ju, .int .i64 e]) W := by
  have c0 := cell_of_row W B 0 _ 26 (0, 0) h
  have c1 := cell_of_row W B 1 _ 26 (0, 0) h
  have c2 := cell_of_row W B 2 _ 26 (0, 0) h
  have c3 := cell_of_row W B 3 _ 26 (0, 0) h
  simp at c0 c1 c2 c3
  simp [results, Tryz.results46, t2, t3, go_sem, loadVar, c0, c1, c2, c3, arV]

set_option maxRecDepth 100000 in
set_option maxHeartbeats 1000000 in
theorem read_any (s : ByteArray) (w : World) (hs : s.size ≤ 800) (h : Laid w) :
    Calls Tryz.prog 46 #[.string s] w fun e w' => ∃ v, e = .returned (.tuple #[arV v (readR s).1.root (readR s).1.jumps, .int .i64 (readR s).2]) ∧ TyIn w' w'.heap.size v (readR s).1.ids ∧ Below w.heap.size w w' := by
  have hl := rdArena_ids s
  have hp := rdArena_params s
  have LW : Hid (∀ W, Below w.heap.size w W → Laid W) := Lib.hid fun W hb => h.later hb
  have CA : Hid (∀ W, Laid W → Calls Tryz.prog 114 #[.string s] W fun e w' => ∃ A n c, e = .returned (arV (.slice A n c) (rdArena s).root (rdArena s).jumps) ∧ Hid (∀ W', Only (fun b => b < W.heap.size) w' W' → TyIn W' W'.heap.size (.slice A n c) (rdArena s).ids) ∧ Below W.heap.size W w') := Lib.hid fun W h => readArena_any s W hs h
  have CS : Hid (∀ W W' A n c, TyIn W W.heap.size (.slice A n c) (rdArena s).ids → Below W.heap.size W W' → Calls Tryz.prog 22 #[arV (.slice A n c) (rdArena s).root (rdArena s).jumps] W' fun e w' => e = .returned (.tuple #[.string (showRes (rdArena s)).1, .int .i64 (showRes (rdArena s)).2]) ∧ Below W'.heap.size W' w') :=
    Lib.hid fun W W' A n c hv hb => show2_any _ (rdArena s) W' (by omega) (fun t ht => by have := hp t ht; omega) ((hv.below hb.block).more hb.size)
  obtain ⟨RR, hRR⟩ : ∃ RR, readR s = RR := ⟨_, rfl⟩
  have HR := Lib.hid (show (if (showRes (rdArena s)).2 = 0 ∧ (showRes (rdArena s)).1 = s then (rdArena s, (0 : Int)) else (zeroAr, 4)) = RR from hRR)
  rw [hRR]
  obtain ⟨T, eT⟩ : ∃ T, (showRes (rdArena s)).1 = T := ⟨_, rfl⟩
  obtain ⟨r, er⟩ : ∃ r, (showRes (rdArena s)).2 = r := ⟨_, rfl⟩
  rw [eT, er] at CS HR
  obtain ⟨⟨ids, b, ju⟩, hA⟩ : ∃ A, rdArena s = A := ⟨_, rfl⟩
  rw [hA] at CA CS HR
  dsimp only at CA CS
  unfold arV at CA CS
  obtain ⟨w1, hw1⟩ : ∃ w1, w.alloc (.cells #[.slice none 0 0, .bool false, .int .i64 0, .bool false] 26) = w1 := ⟨_, rfl⟩
  have hb : Below w.heap.size w w1 := by rw [← hw1]; exact (Below.refl _ w).alloc (Nat.le_refl _) _
  have x0 : BoxA w1 w.heap.size (.slice none 0 0) ⟨false, 0⟩ false := by rw [← hw1]; exact World.alloc_heap_new w _
  have HB := Lib.hid hb
  have HX := Lib.hid x0
  have HXL := Lib.hid x0.lt
  clear hl hp hs h eT er hA hb x0 hRR
  by_cases hr : r = 0
  · subst hr
    by_cases hT : T = s
    · subst hT
      have hm : RR = (⟨ids, b, ju⟩, 0) := by rw [← HR.out, if_pos ⟨rfl, rfl⟩]
      rw [hm]
      dsimp only
      go_enter Tryz.func46, Tryz.ntmps46
      go_wp2_with (first
        | (go_at_call 114; (with_reducible refine (CA.out _ (LW.out _ HB.out)).mono ?_); rintro e w2 ⟨A, n, c, rfl, HT, hb2⟩; have h02 := HB.out.trans (hb2.mono HB.out.size))
        | (go_at_call 22; (with_reducible refine (CS.out _ _ A n c (HT.out _ (Only.refl _ _)) ((Below.refl _ _).alloc (Nat.le_refl _) _)).mono ?_); rintro e w3 ⟨rfl, hb3⟩; have x3 : BoxA w3 w.heap.size (.slice none 0 0) ⟨false, 0⟩ false := (hb3.block _ (Nat.lt_of_lt_of_le HXL.out (Nat.le_trans hb2.size (by simp)))).trans ((Below.heap_alloc _ _ _ (Nat.lt_of_lt_of_le HXL.out hb2.size)).trans ((hb2.block _ HXL.out).trans HX.out)); have q3 : BoxA w3 w2.heap.size (.slice A n c) b ju := (hb3.block _ (by simp)).trans (World.alloc_heap_new w2 _); have d0 := cell_of_row w3 _ 0 _ 26 (0, 0) q3; have d1 := cell_of_row w3 _ 1 _ 26 (0, 0) q3; have d2 := cell_of_row w3 _ 2 _ 26 (0, 0) q3; have d3 := cell_of_row w3 _ 3 _ 26 (0, 0) q3; obtain ⟨y1, y2, y3, y4, e1, e2, e3, e4, s0, f0, s1, f1, s2, f2, s3, f3, z4, o4⟩ := chain26 x3 (.slice A n c) b ju; dsimp only at s1 s2))
      have h2a : Below w.heap.size w (w2.alloc (.cells #[.slice A n c, .bool b.cell, .int .i64 b.n, .bool ju] 26)) := h02.alloc h02.size _
      have h03 := h2a.trans (hb3.mono h2a.size)
      refine bodyPost_ret (results_read46 (root := b) (e := 0) z4 (by simp) (by simp)) rfl ?_
      refine ⟨_, rfl, ?_, h03.trans (o4.below _ h03.size (fun b hb h => by omega))⟩
      exact HT.out _ ((((Only.refl _ w2).alloc _).trans (Only.of_below (S := fun b => b < w1.heap.size) hb3) (fun _ _ h => h)).trans o4 (fun i hi h => by have := HXL.out; omega))
    · have hm : RR = (zeroAr, 4) := by rw [← HR.out, if_neg (fun h => hT h.2)]
      rw [hm]
      have hTs := bytes_ne2 hT
      go_enter Tryz.func46, Tryz.ntmps46
      go_wp2_with (first
        | (go_at_call 114; (with_reducible refine (CA.out _ (LW.out _ HB.out)).mono ?_); rintro e w2 ⟨A, n, c, rfl, HT, hb2⟩; have h02 := HB.out.trans (hb2.mono HB.out.size))
        | (go_at_call 22; (with_reducible refine (CS.out _ _ A n c (HT.out _ (Only.refl _ _)) ((Below.refl _ _).alloc (Nat.le_refl _) _)).mono ?_); rintro e w3 ⟨rfl, hb3⟩; have x3 : BoxA w3 w.heap.size (.slice none 0 0) ⟨false, 0⟩ false := (hb3.block _ (Nat.lt_of_lt_of_le HXL.out (Nat.le_trans hb2.size (by simp)))).trans ((Below.heap_alloc _ _ _ (Nat.lt_of_lt_of_le HXL.out hb2.size)).trans ((hb2.block _ HXL.out).trans HX.out)); obtain ⟨y1, y2, y3, y4, e1, e2, e3, e4, s0, f0, s1, f1, s2, f2, s3, f3, z4, o4⟩ := chain26 x3 (.slice none 0 0) ⟨false, 0⟩ false; dsimp only at e2 e3 s1 s2))
      have h2a : Below w.heap.size w (w2.alloc (.cells #[.slice A n c, .bool b.cell, .int .i64 b.n, .bool ju] 26)) := h02.alloc h02.size _
      have h03 := h2a.trans (hb3.mono h2a.size)
      refine bodyPost_ret (results_read46 (root := ⟨false, 0⟩) (e := 4) z4 (by simp) (by simp)) rfl ?_
      exact ⟨_, rfl, ⟨none, 0, rfl, fun i x hx => by simp [zeroAr] at hx⟩, h03.trans (o4.below _ h03.size (fun b hb h => by omega))⟩
  · have hm : RR = (zeroAr, 4) := by rw [← HR.out, if_neg (fun h => hr h.1)]
    rw [hm]
    have hne : (r != 0) = true := by simpa using hr
    go_enter Tryz.func46, Tryz.ntmps46
    go_wp2_with (first
      | (go_at_call 114; (with_reducible refine (CA.out _ (LW.out _ HB.out)).mono ?_); rintro e w2 ⟨A, n, c, rfl, HT, hb2⟩; have h02 := HB.out.trans (hb2.mono HB.out.size))
      | (go_at_call 22; (with_reducible refine (CS.out _ _ A n c (HT.out _ (Only.refl _ _)) ((Below.refl _ _).alloc (Nat.le_refl _) _)).mono ?_); rintro e w3 ⟨rfl, hb3⟩; have x3 : BoxA w3 w.heap.size (.slice none 0 0) ⟨false, 0⟩ false := (hb3.block _ (Nat.lt_of_lt_of_le HXL.out (Nat.le_trans hb2.size (by simp)))).trans ((Below.heap_alloc _ _ _ (Nat.lt_of_lt_of_le HXL.out hb2.size)).trans ((hb2.block _ HXL.out).trans HX.out)); obtain ⟨y1, y2, y3, y4, e1, e2, e3, e4, s0, f0, s1, f1, s2, f2, s3, f3, z4, o4⟩ := chain26 x3 (.slice none 0 0) ⟨false, 0⟩ false; dsimp only at e2 e3 s1 s2))
    have h2a : Below w.heap.size w (w2.alloc (.cells #[.slice A n c, .bool b.cell, .int .i64 b.n, .bool ju] 26)) := h02.alloc h02.size _
    have h03 := h2a.trans (hb3.mono h2a.size)
    refine bodyPost_ret (results_read46 (root := ⟨false, 0⟩) (e := 4) z4 (by simp) (by simp)) rfl ?_
    exact ⟨_, rfl, ⟨none, 0, rfl, fun i x hx => by simp [zeroAr] at hx⟩, h03.trans (o4.below _ h03.size (fun b hb h => by omega))⟩
end Go.Proofs.YtklfojmflmablaaGreatDoor
