/- A range over a function value that may be bound to a receiver (a method value): the walk's law, with the blocks that the consumer may turn told as a set. -/
import Derived.RangeFuncBound
import Derived.WalkKit
namespace Go.Proofs.YtklfojmflmablaaGreatDoor
open Go Go.RowKit

/-- Of what lay in A only blocks of S may have turned. -/
structure Only (S : Nat → Prop) (A B : World) : Prop where
  os : B.os = A.os
  tape : B.tape = A.tape
  output : B.output = A.output
  size : A.heap.size ≤ B.heap.size
  block : ∀ k, k < A.heap.size → ¬ S k → B.heap[k]? = A.heap[k]?

theorem Only.refl (S : Nat → Prop) (A : World) : Only S A A := ⟨rfl, rfl, rfl, Nat.le_refl _, fun _ _ _ => rfl⟩
theorem Only.trans {S T : Nat → Prop} {A B C : World} (h : Only S A B) (k : Only T B C) (hs : ∀ i, i < A.heap.size → T i → S i) : Only S A C :=
  ⟨k.os.trans h.os, k.tape.trans h.tape, k.output.trans h.output, Nat.le_trans h.size k.size,
   fun i hi hn => (k.block i (Nat.lt_of_lt_of_le hi h.size) (fun ht => hn (hs i hi ht))).trans (h.block i hi hn)⟩
theorem Only.mono {S T : Nat → Prop} {A B : World} (h : Only S A B) (hs : ∀ i, i < A.heap.size → S i → T i) : Only T A B :=
  ⟨h.os, h.tape, h.output, h.size, fun i hi hn => h.block i hi (fun ht => hn (hs i hi ht))⟩
theorem Only.alloc {S : Nat → Prop} {A B : World} (h : Only S A B) (o : Obj) : Only S A (B.alloc o) :=
  h.trans (T := fun _ => False) ⟨rfl, rfl, rfl, by simp, fun k hk _ => Below.heap_alloc _ _ _ hk⟩ (fun _ _ f => f.elim)
theorem Only.setCell {S : Nat → Prop} {A B : World} (h : Only S A B) (p : Addr) (u : Value) (hp : p.block < A.heap.size → S p.block) : Only S A (B.setCell p u) :=
  h.trans (T := fun k => k = p.block) ⟨rfl, rfl, rfl, by simp [World.setCell], fun k _ hn => Below.heap_setCell _ _ _ _ hn⟩ (fun _ hi e => by subst e; exact hp hi)
theorem Only.drew {S : Nat → Prop} {A B : World} (h : Only S A B) : Only S A B.drew := ⟨h.os, h.tape, h.output, h.size, h.block⟩
theorem Only.putObj {S : Nat → Prop} {A B : World} (h : Only S A B) (r : Nat) (o : Obj) (hp : r < A.heap.size → S r) : Only S A (B.putObj r o) :=
  h.trans (T := fun k => k = r) ⟨rfl, rfl, rfl, by simp, fun _ _ hn => World.putObj_heap_other hn⟩ (fun _ hi e => by subst e; exact hp hi)
theorem Only.grown {S : Nat → Prop} {A B C : World} {row : Option Nat} (h : Only S A B) (hg : B.grownBy C row) (hr : ∀ k, row = some k → k < A.heap.size → S k) : Only S A C :=
  h.trans (T := fun k => row = some k) ⟨hg.os, hg.tape, hg.output, hg.size, fun k hk hn => hg.block k hk (fun e => hn e.symm)⟩ (fun _ hi e => hr _ e hi)
theorem Only.of_below {S : Nat → Prop} {A B : World} (h : Below A.heap.size A B) : Only S A B := ⟨h.os, h.tape, h.output, h.size, fun k hk _ => h.block k hk⟩
theorem Only.below {S : Nat → Prop} {A B : World} (h : Only S A B) (n : Nat) (hn : n ≤ A.heap.size) (hs : ∀ k, k < n → ¬ S k) : Below n A B :=
  ⟨h.os, h.tape, h.output, h.size, fun k hk => h.block k (by omega) (hs k hk)⟩
theorem Only.cell {S : Nat → Prop} {A B : World} (h : Only S A B) {p : Addr} (hp : p.block < A.heap.size) (hs : ¬ S p.block) : B.cell? p = A.cell? p := World.cell?_of_block (h.block _ hp hs)
theorem Only.frozen {S : Nat → Prop} {A B : World} (h : Only S A B) {p : Addr} (hp : p.block < A.heap.size) (hs : ¬ S p.block) : B.frozen? p = A.frozen? p := World.frozen?_of_block (h.block _ hp hs)

/-- A call of the function value y at args, wherever it is made. -/
def Yields (P : Program) (y : Value) (args : Array Value) (W : World) (Q : Ending → World → Prop) : Prop :=
  (∃ k cp, y = .func (.func k) #[] cp ∧ (∀ args w, (callFunc k args).run P w = .ok (.enter k args) w) ∧ Calls P k (args ++ cp) W Q) ∨
  (∃ l, y = .func (.yield l) #[] #[] ∧ ∀ m, YieldAt Fence.wide m P l args W Q)

/-- The two forms of a consumer: a function with what it has captured; the body of a loop. -/
def FnForm (P : Program) (y : Value) : Prop := (∃ k cp, y = .func (.func k) #[] cp ∧ ∀ args w, (callFunc k args).run P w = .ok (.enter k args) w) ∨ ∃ l, y = .func (.yield l) #[] #[]
theorem Yields.fn {P : Program} {k : Nat} {cp args : Array Value} {W : World} {Q : Ending → World → Prop} (h : Yields P (.func (.func k) #[] cp) args W Q) : Calls P k (args ++ cp) W Q := by
  rcases h with ⟨k', cp', e, _, hc⟩ | ⟨l, e, _⟩
  · injection e with e1 _ e2
    injection e1 with e1
    subst e1 e2
    exact hc
  · injection e with e1
    cases e1
theorem Yields.yield {P : Program} {l : Nat} {args : Array Value} {W : World} {Q : Ending → World → Prop} (h : Yields P (.func (.yield l) #[] #[]) args W Q) : ∀ m, YieldAt Fence.wide m P l args W Q := by
  rcases h with ⟨k', cp', e, _, hc⟩ | ⟨l, e, hc⟩
  · injection e with e1
    cases e1
  · injection e with e1
    injection e1 with e1
    subst e1
    exact hc
theorem Yields.mono {P : Program} {y : Value} {args : Array Value} {W : World} {Q Q' : Ending → World → Prop} (h : Yields P y args W Q) (hq : ∀ e w, Q e w → Q' e w) : Yields P y args W Q' :=
  h.imp (fun ⟨k, cp, e, ek, hc⟩ => ⟨k, cp, e, ek, hc.mono hq⟩) (fun ⟨l, e, hc⟩ => ⟨l, e, fun m => (hc m).mono hq⟩)

abbrev Sets := Nat → Prop
/-- What holds behind a call of a consumer whose blocks were R in W. -/
structure Foot (R : Sets) (W : World) (R' : Sets) (W' : World) : Prop where
  sub : ∀ k, R' k → R k ∨ W.heap.size ≤ k
  lt : ∀ k, R' k → k < W'.heap.size
  only : Only R W W'

theorem Foot.refl {R : Sets} {W : World} (h : ∀ k, R k → k < W.heap.size) : Foot R W R W := ⟨fun _ h => .inl h, h, Only.refl _ _⟩
theorem Foot.trans {R R1 R2 : Sets} {W W1 W2 : World} (a : Foot R W R1 W1) (b : Foot R1 W1 R2 W2) : Foot R W R2 W2 :=
  ⟨fun k h => (b.sub k h).elim (a.sub k) (fun h => .inr (Nat.le_trans a.only.size h)), b.lt,
   a.only.trans b.only (fun i hi h => (a.sub i h).elim id (fun h => absurd hi (by omega)))⟩

/-- What may be asked of a consumer y of the items xs: J holds between two of its calls; Jx holds when it has said 'no more'. Whoever hands it the items may turn blocks from B on that are none of its own. -/
structure Eats {α : Type} (P : Program) (B : Nat) (y : Value) (enc : α → Array Value) (xs : List α) (J Jx : List α → Sets → World → Prop) : Prop where
  form : FnForm P y
  stable : ∀ pre R W W', J pre R W → Only (fun k => B ≤ k ∧ ¬ R k) W W' → J pre R W'
  stablex : ∀ pre R W W', Jx pre R W → Only (fun k => B ≤ k ∧ ¬ R k) W W' → Jx pre R W'
  take : ∀ pre x R W, (pre ++ [x]) <+: xs → B ≤ W.heap.size → J pre R W → (∀ k, R k → k < W.heap.size) → Yields P y (enc x) W fun e W' =>
    ∃ R', Foot R W R' W' ∧ ((e = .returned (.bool true) ∧ J (pre ++ [x]) R' W') ∨ (e = .returned (.bool false) ∧ Jx (pre ++ [x]) R' W'))

theorem Eats.head {α : Type} {P : Program} {B B' : Nat} {y : Value} {enc : α → Array Value} {xs ys : List α} {J Jx : List α → Sets → World → Prop} (h : Eats P B y enc (xs ++ ys) J Jx) (hB : B ≤ B') : Eats P B' y enc xs J Jx :=
  ⟨h.form, fun pre R W W' hj ho => h.stable pre R W W' hj (ho.mono fun _ _ h => ⟨Nat.le_trans hB h.1, h.2⟩), fun pre R W W' hj ho => h.stablex pre R W W' hj (ho.mono fun _ _ h => ⟨Nat.le_trans hB h.1, h.2⟩),
   fun pre x R W hp hw hj hl => h.take pre x R W (hp.trans (List.prefix_append _ _)) (Nat.le_trans hB hw) hj hl⟩
theorem Eats.tail {α : Type} {P : Program} {B B' : Nat} {y : Value} {enc : α → Array Value} {xs ys : List α} {J Jx : List α → Sets → World → Prop} (h : Eats P B y enc (xs ++ ys) J Jx) (hB : B ≤ B') : Eats P B' y enc ys (fun pre => J (xs ++ pre)) (fun pre => Jx (xs ++ pre)) :=
  ⟨h.form, fun pre R W W' hj ho => h.stable _ R W W' hj (ho.mono fun _ _ h => ⟨Nat.le_trans hB h.1, h.2⟩), fun pre R W W' hj ho => h.stablex _ R W W' hj (ho.mono fun _ _ h => ⟨Nat.le_trans hB h.1, h.2⟩),
   fun pre x R W hp hw hj hl => by
    have := h.take (xs ++ pre) x R W (by rw [List.append_assoc]; exact (List.prefix_append_right_inj xs).2 hp) (Nat.le_trans hB hw) hj hl
    rw [List.append_assoc] at this
    exact this⟩
/-- What lay in W and is none of the consumer's lies. -/
theorem Foot.box {R R' : Sets} {W W' : World} (h : Foot R W R' W') {b : Nat} {o : Obj} (hb : W.heap[b]? = some o) (hn : ¬ R b) : W'.heap[b]? = some o := (h.only.block b (Array.getElem?_eq_some_iff.1 hb).1 hn).trans hb
/-- New blocks of one's own, and the consumer's, out of a world in which only blocks were laid. -/
theorem Foot.after {R R' : Sets} {W W1 W' : World} (h0 : Only (fun _ => False) W W1) (h : Foot R W1 R' W') : Foot R W R' W' :=
  ⟨fun k hk => (h.sub k hk).imp id (fun h => Nat.le_trans h0.size h), h.lt, (h0.mono (fun _ _ f => f.elim)).trans h.only (fun _ _ h => h)⟩
/-- .. and what comes behind is none of the consumer's. -/
theorem Foot.then {R R' : Sets} {W W1 W' : World} (h : Foot R W R' W1) (h0 : Only (fun k => W.heap.size ≤ k ∧ ¬ R' k) W1 W') : Foot R W R' W' :=
  ⟨h.sub, fun k hk => Nat.lt_of_lt_of_le (h.lt k hk) h0.size, h.only.trans h0 (fun i hi hn => absurd hn.1 (by omega))⟩

/-- Function f, called at 'args y', hands the items xs to y, in their order, till y says 'no more'. It reads the blocks 'own' of w. -/
def Iters {α : Type} (P : Program) (f : Nat) (args : Value → Array Value) (enc : α → Array Value) (xs : List α) (own : Sets) (w : World) : Prop :=
  ∀ (y : Value) (J Jx : List α → Sets → World → Prop) (R : Sets) (W : World), Eats P W.heap.size y enc xs J Jx → w.heap.size ≤ W.heap.size → (∀ k, own k → W.heap[k]? = w.heap[k]?) → (∀ k, R k → ¬ own k) →
    (∀ k, R k → k < W.heap.size) → J [] R W →
    Calls P f (args y) W fun e W' => (∃ v, e = .returned v) ∧ ∃ R', Foot R W R' W' ∧ (J xs R' W' ∨ ∃ pre, pre <+: xs ∧ Jx pre R' W')

/-- Called for what comes behind 'pre', by whoever keeps B: an iterator that reads nothing. -/
theorem Iters.call0 {α : Type} {P : Program} {f : Nat} {args : Value → Array Value} {enc : α → Array Value} {pre xs : List α} (h : ∀ w, Iters P f args enc xs (fun _ => False) w) {B : Nat} {y : Value} {J Jx : List α → Sets → World → Prop} {ys : List α} (hys : ys = pre ++ xs) (hE : Eats P B y enc ys J Jx)
    {R : Sets} {W : World} (hB : B ≤ W.heap.size) (hR : ∀ k, R k → k < W.heap.size) (hJ : J pre R W) :
    Calls P f (args y) W fun e W' => (∃ v, e = .returned v) ∧ ∃ R', Foot R W R' W' ∧ (J ys R' W' ∨ ∃ q, q <+: ys ∧ Jx q R' W') := by
  subst hys
  refine (h W y _ _ R W (hE.tail hB) (Nat.le_refl _) (fun _ f => f.elim) (fun _ _ f => f) hR (by rw [List.append_nil]; exact hJ)).mono ?_
  rintro e W' ⟨he, R', hf, hj | ⟨q, hq, hj⟩⟩
  · exact ⟨he, R', hf, .inl hj⟩
  · exact ⟨he, R', hf, .inr ⟨_, (List.prefix_append_right_inj pre).2 hq, hj⟩⟩

/-- How the body of a round may be left. -/
def bodyPostR {α : Type} (I : List α → Sets → World → Prop) (Ix : Code → List α → Sets → World → Prop) (pre : List α) (R : Sets) (W : World) : Exit → Act → World → Prop
  | .normal, _, W' => ∃ R', Foot R W R' W' ∧ I pre R' W'
  | .ret, _, W' => ∃ R', Foot R W R' W' ∧ Ix .ret pre R' W'
  | .exit id, _, W' => ∃ R', Foot R W R' W' ∧ Ix (.exit id) pre R' W'
  | .goto t, _, W' => ∃ R', Foot R W R' W' ∧ Ix (.goto t) pre R' W'
  | .panic _, _, _ => False
  | .outgrown, _, _ => False

variable {n : Nat} {P : Program}

theorem wpIn_range {α : Type} {g : Operand} {ps : Array Tmp} {assign body : Code} {Q : Exit → Act → World → Prop} {a : Act} {w : World}
    {gf : Nat} {first lb : Array Value} (hg : a.eval g = .func (.func gf) first lb) (eg : ∀ args w, (callFunc gf args).run P w = .ok (.enter gf args) w)
    {enc : α → Array Value} {xs : List α} {own : Sets} (hit : Iters P gf (fun y => (first ++ #[y]) ++ lb) enc xs own w) (hps : ∀ x, (enc x).size = ps.size)
    (I : List α → Sets → World → Prop) (Ix : Code → List α → Sets → World → Prop)
    (hI : ∀ pre R W W', I pre R W → Only (fun k => w.heap.size ≤ k ∧ ¬ R k) W W' → I pre R W')
    (hIx : ∀ c pre R W W', Ix c pre R W → Only (fun k => w.heap.size ≤ k ∧ ¬ R k) W W' → Ix c pre R W')
    (R0 : Sets) (hR0 : ∀ k, R0 k → k < w.heap.size) (hown : ∀ k, own k → k < w.heap.size) (hdis : ∀ k, R0 k → ¬ own k) (h0 : I [] R0 w)
    (hround : ∀ (l : Nat) (pre : List α) (x : α) (R : Sets) (W : World), (pre ++ [x]) <+: xs → Foot R0 w R W → I pre R W → ¬ R l → l < W.heap.size → w.heap.size ≤ l →
      assign.wpIn (Fence.wide.inRound l) 3 P (Exit.then (fun a' W' => Only (fun _ => False) W W' ∧ ∀ W'', W''.heap.size = W'.heap.size → Only (fun k => k = l) W' W'' → Only (fun k => k = l) W W'' → I pre R W'' →
        body.wpIn (Fence.wide.inRound l) 3 P (bodyPostR I Ix (pre ++ [x]) R W'') a' W'') (fun _ _ _ => False))
        { tmps := (ps.zip (enc x)).foldl (fun t (p, v) => t.setIfInBounds p v) a.tmps, defers := [] } W)
    (hdone : ∀ (D : Nat) (R : Sets) (W : World), w.heap.size ≤ D → ¬ R D → Foot R0 w R W → I xs R W → W.heap[D]? = some (.deferred (some [])) → Q .normal { a with defers := { target := .collected D, args := #[] } :: a.defers } W)
    (hstop : ∀ (D : Nat) (c : Code) (pre : List α) (R : Sets) (W : World), w.heap.size ≤ D → ¬ R D → pre <+: xs → Foot R0 w R W → Ix c pre R W → W.heap[D]? = some (.deferred (some [])) → c.wpIn Fence.wide n P Q { a with defers := { target := .collected D, args := #[] } :: a.defers } W) :
    (Code.rangeFunc g ps assign body).wpIn Fence.wide n P Q a w := by
  refine wpIn_rangeFunc ?_
  intro fn hfn
  obtain ⟨rec, hrec⟩ : ∃ rec : LoopState → Option Code → Loop, rec = fun st pe => { state := st, pending := pe, fn, tmps := a.tmps, params := ps, assign, body, defers := w.heap.size } := ⟨_, rfl⟩
  obtain ⟨W1, hW1⟩ : ∃ W1, (w.alloc (.deferred (some []))).alloc (.loop (rec .ready none)) = W1 := ⟨_, rfl⟩
  have s1 : W1.heap.size = w.heap.size + 2 := by rw [← hW1]; simp
  have o1 : Only (fun _ => False) w W1 := by rw [← hW1]; exact ((Only.refl _ w).alloc _).alloc _
  have hL1 : W1.heap[w.heap.size + 1]? = some (.loop (rec .ready none)) := by
    rw [← hW1]; have := World.alloc_heap_new (w.alloc (.deferred (some []))) (.loop (rec .ready none)); rwa [World.size_alloc] at this
  have hK1 : W1.heap[w.heap.size]? = some (.deferred (some [])) := by
    rw [← hW1]; exact (Below.heap_alloc _ _ _ (by simp)).trans (World.alloc_heap_new w _)
  -- the consumer: the loop itself: its blocks are those of the caller's invariant, the record and the block for deferred calls
  let own2 : Sets := fun k => k = w.heap.size ∨ k = w.heap.size + 1
  let J : List α → Sets → World → Prop := fun pre R W => ∃ R0', (∀ k, R k ↔ (R0' k ∨ own2 k)) ∧ Foot R0 w R0' W ∧ (∀ k, R0' k → ¬ own2 k) ∧ I pre R0' W ∧ W.heap[w.heap.size + 1]? = some (.loop (rec .ready none)) ∧ W.heap[w.heap.size]? = some (.deferred (some []))
  let Jx : List α → Sets → World → Prop := fun pre R W => ∃ c R0', (∀ k, R k ↔ (R0' k ∨ own2 k)) ∧ Foot R0 w R0' W ∧ (∀ k, R0' k → ¬ own2 k) ∧ Ix c pre R0' W ∧ W.heap[w.heap.size + 1]? = some (.loop (rec .done (some c))) ∧ W.heap[w.heap.size]? = some (.deferred (some []))
  have ltOf : ∀ {W : World} {k : Nat} {o : Obj}, W.heap[k]? = some o → k < W.heap.size := fun h => (Array.getElem?_eq_some_iff.1 h).1
  have keep : ∀ {R R0' : Sets} {W W' : World}, (∀ k, R k ↔ (R0' k ∨ own2 k)) → Foot R0 w R0' W → Only (fun k => W1.heap.size ≤ k ∧ ¬ R k) W W' →
      Only (fun k => w.heap.size ≤ k ∧ ¬ R0' k) W W' ∧ Foot R0 w R0' W' := fun hR hf ho =>
    ⟨ho.mono fun i _ hn => ⟨by omega, fun h0 => hn.2 ((hR i).2 (.inl h0))⟩,
     ⟨hf.sub, fun k hk => Nat.lt_of_lt_of_le (hf.lt k hk) ho.size, hf.only.trans ho (fun i hi hn => absurd hn.1 (by omega))⟩⟩
  have keepO : ∀ {R R0' : Sets} {W W' : World} {k : Nat} {o : Obj}, (∀ k, R k ↔ (R0' k ∨ own2 k)) → Only (fun k => W1.heap.size ≤ k ∧ ¬ R k) W W' → own2 k → W.heap[k]? = some o → W'.heap[k]? = some o := fun hR ho hk h =>
    (ho.block _ (ltOf h) (fun hn => hn.2 ((hR _).2 (.inr hk)))).trans h
  have foot1 : ∀ {R R0' R1 R1' : Sets} {W W' : World}, (∀ k, R k ↔ (R0' k ∨ own2 k)) → (∀ k, R1 k ↔ (R1' k ∨ own2 k)) → (∀ k, R1' k → R0' k ∨ W.heap.size ≤ k) → (∀ k, R1' k → k < W'.heap.size) → w.heap.size + 2 ≤ W'.heap.size → Only R W W' → Foot R W R1 W' :=
    fun hR hR1 hs hl hz ho => ⟨fun k hk => ((hR1 k).1 hk).elim (fun h => (hs k h).elim (fun h => .inl ((hR k).2 (.inl h))) .inr) (fun h => .inl ((hR k).2 (.inr h))),
      fun k hk => ((hR1 k).1 hk).elim (hl k) (fun h => by rcases h with rfl | rfl <;> omega), ho⟩
  refine ⟨w.heap.size + 1, [{ target := .collected w.heap.size, args := #[] }], W1, { target := .fn (.func gf) lb, args := first ++ #[.func (.yield (w.heap.size + 1)) #[] #[]] }, W1, gf,
    (first ++ #[.func (.yield (w.heap.size + 1)) #[] #[]]) ++ lb, W1, ?_, ?_, ?_, ?_, fun h => absurd h (by simp [Fence.wide]), ?_⟩
  · rw [← hW1, hrec]; exact run_enterLoop_outer _ _ _ _ _
  · simp only [resolve, hg]
    simp [go_sem]
  · intro f' _; trivial
  · simp [invoke, eg]
  · have hlp : Foot R0 w R0 W1 := ⟨fun k h => .inl h, fun k h => by have := hR0 k h; omega, o1.mono (fun _ _ f => f.elim)⟩
    have hd0 : ∀ k, R0 k → ¬ own2 k := fun k hk ho => by have := hR0 k hk; rcases ho with rfl | rfl <;> omega
    refine (callsIn_wide.2 (hit (.func (.yield (w.heap.size + 1)) #[] #[]) J Jx (fun k => R0 k ∨ own2 k) W1
      ⟨.inr ⟨_, rfl⟩, ?stable, ?stablex, ?take⟩ (by omega) (fun k hk => o1.block k (hown k hk) (fun f => f)) ?dis ?lt ?start)).mono ?_
    case stable =>
      rintro pre R W W' ⟨R0', hR, hf, hd, hi, hl, hk⟩ ho
      obtain ⟨ho', hf'⟩ := keep hR hf ho
      exact ⟨R0', hR, hf', hd, hI _ _ _ _ hi ho', keepO hR ho (.inr rfl) hl, keepO hR ho (.inl rfl) hk⟩
    case stablex =>
      rintro pre R W W' ⟨c, R0', hR, hf, hd, hi, hl, hk⟩ ho
      obtain ⟨ho', hf'⟩ := keep hR hf ho
      exact ⟨c, R0', hR, hf', hd, hIx _ _ _ _ _ hi ho', keepO hR ho (.inr rfl) hl, keepO hR ho (.inl rfl) hk⟩
    case dis =>
      rintro k (hk | rfl | rfl) ho
      · exact hdis k hk ho
      · have := hown _ ho; omega
      · have := hown _ ho; omega
    case lt =>
      rintro k (hk | rfl | rfl)
      · have := hR0 k hk; omega
      · omega
      · omega
    case start => exact ⟨R0, fun k => Iff.rfl, hlp, hd0, hI _ _ _ _ h0 (o1.mono (fun _ _ f => f.elim)), hL1, hK1⟩
    case take =>
      rintro pre x R W hx hB ⟨R0', hR, hf, hd, hi, hl, hk⟩ hRlt
      refine .inr ⟨_, rfl, fun m => ?_⟩
      have hlt : w.heap.size + 1 < W.heap.size := ltOf hl
      have hy := run_yield (P := P) (args := enc x) hl (by rw [hrec]; exact hps x)
      rw [hrec] at hy
      suffices hs : RoundIn Fence.wide 3 P (w.heap.size + 1) fn _ assign body W _ from ⟨fn, _, assign, body, hy, hs.1, fun c cs _ => hs.2 c cs (room_wide _)⟩
      refine roundIn_of_wpIn hfn ?_
      clear hy
      refine wpIn_mono (hround (w.heap.size + 1) pre x R0' W hx hf hi (fun h => hd _ h (.inr rfl)) hlt (by omega)) ?_
      rintro e a' Wa he
      cases e with
      | normal =>
        obtain ⟨hoa, hnext⟩ := he
        have hla := (hoa.block _ hlt (fun f => f)).trans hl
        have hka := (hoa.block _ (by omega) (fun f => f)).trans hk
        have hlta : w.heap.size + 1 < Wa.heap.size := ltOf hla
        refine ⟨_, run_beginRound hla (by rw [hrec]), ?_⟩
        obtain ⟨Wb, hWb⟩ : ∃ Wb, Wa.putObj (w.heap.size + 1) (.loop { rec .ready none with state := .busy }) = Wb := ⟨_, rfl⟩
        have hob : Only (fun k => k = w.heap.size + 1) Wa Wb := by rw [← hWb]; exact (Only.refl _ _).putObj _ _ (fun _ => rfl)
        have hzb : Wb.heap.size = Wa.heap.size := by rw [← hWb]; simp
        have hlb : Wb.heap[w.heap.size + 1]? = some (.loop { rec .ready none with state := .busy }) := by rw [← hWb]; exact World.putObj_heap_same hlta
        have hkb : Wb.heap[w.heap.size]? = some (.deferred (some [])) := (hob.block _ (by omega) (by omega)).trans hka
        have how : Only (fun k => k = w.heap.size + 1) W Wb := hoa.mono (T := fun k => k = w.heap.size + 1) (fun _ _ f => f.elim) |>.trans hob (fun _ _ h => h)
        have hib : I pre R0' Wb := hI _ _ _ _ hi (how.mono (fun i _ h => ⟨by omega, fun h0 => hd _ h0 (.inr h)⟩))
        rw [hWb]
        refine wpIn_mono (hnext Wb hzb hob how hib) ?_
        have fin : ∀ (jump : Option Code) (R1 : Sets) (W3 : World), Foot R0' Wb R1 W3 → ∃ W4, (Instr.endRound (w.heap.size + 1) jump).run P W3 = .ok (.bool jump.isNone) W4 ∧ Only (fun k => k = w.heap.size + 1) W3 W4 ∧ W4.heap.size = W3.heap.size ∧
            W4.heap[w.heap.size + 1]? = some (.loop (rec (if jump.isNone then .ready else .done) jump)) ∧ W4.heap[w.heap.size]? = some (.deferred (some [])) ∧ (∀ k, R1 k → ¬ own2 k) ∧ Foot R0 w R1 W4 ∧
            ∃ R2 : Sets, (∀ k, R2 k ↔ (R1 k ∨ own2 k)) ∧ Foot R W R2 W4 := fun jump R1 W3 hf3 => by
          have hd3 : ∀ k, R1 k → ¬ own2 k := fun k hk ho => (hf3.sub k hk).elim (fun h => hd k h ho) (fun h => by rcases ho with rfl | rfl <;> omega)
          have hl3 := (hf3.only.block _ (ltOf hlb) (fun h => hd _ h (.inr rfl))).trans hlb
          have hk3 := (hf3.only.block _ (ltOf hkb) (fun h => hd _ h (.inl rfl))).trans hkb
          have hr := run_endRound (P := P) jump hl3
          rw [hrec] at hr
          have hlt3 : w.heap.size + 1 < W3.heap.size := ltOf hl3
          obtain ⟨W4, hW4⟩ : ∃ W4, W3.putObj (w.heap.size + 1) (.loop (rec (if jump.isNone then .ready else .done) jump)) = W4 := ⟨_, rfl⟩
          have o4 : Only (fun k => k = w.heap.size + 1) W3 W4 := by rw [← hW4]; exact (Only.refl _ _).putObj _ _ (fun _ => rfl)
          have z4 : W4.heap.size = W3.heap.size := by rw [← hW4]; simp
          have hsub4 : ∀ k, R1 k → R0' k ∨ W.heap.size ≤ k := fun k hk => (hf3.sub k hk).imp id (fun h => by have := hoa.size; omega)
          have hlt4 : ∀ k, R1 k → k < W4.heap.size := fun k hk => by have := hf3.lt k hk; omega
          have hoW : Only R W W4 := (how.mono (T := R) (fun i _ h => (hR i).2 (.inr (.inr h)))).trans ((hf3.only.mono (T := R) (fun i _ h => (hR i).2 (.inl h))).trans (o4.mono (T := R) (fun i _ h => (hR i).2 (.inr (.inr h)))) (fun _ _ h => h)) (fun _ _ h => h)
          have hz4 : w.heap.size + 2 ≤ W4.heap.size := by omega
          refine ⟨W4, by rw [← hW4, hrec]; exact hr, o4, z4, by rw [← hW4]; exact World.putObj_heap_same hlt3, (o4.block _ (by omega) (by omega)).trans hk3, hd3, ?_, fun k => R1 k ∨ own2 k, fun k => Iff.rfl, ?_⟩
          · exact ⟨fun k hk => (hsub4 k hk).elim (hf.sub k) (fun h => .inr (by have := hf.only.size; omega)), hlt4,
              hf.only.trans hoW (fun i hi h => ((hR i).1 h).elim (fun h => (hf.sub i h).elim id (fun h => absurd hi (by omega))) (fun h => by rcases h with rfl | rfl <;> omega))⟩
          · exact foot1 hR (fun _ => Iff.rfl) hsub4 hlt4 hz4 hoW
        have stepI : ∀ {R1 : Sets} {W3 W4 : World}, Only (fun k => k = w.heap.size + 1) W3 W4 → (∀ k, R1 k → ¬ own2 k) → Only (fun k => w.heap.size ≤ k ∧ ¬ R1 k) W3 W4 := fun ho hd => ho.mono fun i _ h => ⟨by omega, fun h1 => hd _ h1 (.inr h)⟩
        rintro e a3 W3 hp
        cases e with
        | normal =>
          obtain ⟨R1, hf3, hi3⟩ := hp
          obtain ⟨W4, hr, o4, z4, hl4, hk4, hd3, hf4, R2, hR2, hF2⟩ := fin none R1 W3 hf3
          exact ⟨_, W4, hr, R2, hF2, .inl ⟨rfl, R1, hR2, hf4, hd3, hI _ _ _ _ hi3 (stepI o4 hd3), hl4, hk4⟩⟩
        | ret =>
          obtain ⟨R1, hf3, hi3⟩ := hp
          obtain ⟨W4, hr, o4, z4, hl4, hk4, hd3, hf4, R2, hR2, hF2⟩ := fin (some .ret) R1 W3 hf3
          exact ⟨_, W4, hr, R2, hF2, .inr ⟨rfl, .ret, R1, hR2, hf4, hd3, hIx _ _ _ _ _ hi3 (stepI o4 hd3), hl4, hk4⟩⟩
        | exit id =>
          obtain ⟨R1, hf3, hi3⟩ := hp
          obtain ⟨W4, hr, o4, z4, hl4, hk4, hd3, hf4, R2, hR2, hF2⟩ := fin (some (.exit id)) R1 W3 hf3
          exact ⟨_, W4, hr, R2, hF2, .inr ⟨rfl, .exit id, R1, hR2, hf4, hd3, hIx _ _ _ _ _ hi3 (stepI o4 hd3), hl4, hk4⟩⟩
        | goto t =>
          obtain ⟨R1, hf3, hi3⟩ := hp
          obtain ⟨W4, hr, o4, z4, hl4, hk4, hd3, hf4, R2, hR2, hF2⟩ := fin (some (.goto t)) R1 W3 hf3
          exact ⟨_, W4, hr, R2, hF2, .inr ⟨rfl, .goto t, R1, hR2, hf4, hd3, hIx _ _ _ _ _ hi3 (stepI o4 hd3), hl4, hk4⟩⟩
        | panic ch => exact hp.elim
        | outgrown => exact hp.elim
      | exit id => exact he.elim
      | goto t => exact he.elim
      | ret => exact he.elim
      | panic ch => exact he.elim
      | outgrown => exact he.elim
    · rintro e W2 ⟨⟨v, rfl⟩, R', hF, (⟨R0', hR, hf, hd, hi, hl, hk⟩ | ⟨pre, hpre, c, R0', hR, hf, hd, hi, hl, hk⟩)⟩
      · have hend := run_endLoop (P := P) hl (by rw [hrec]; simp)
        rw [hrec] at hend
        refine ⟨none, _, hend, ?_⟩
        have o4 := (Only.refl (fun k => k = w.heap.size + 1) W2).putObj (w.heap.size + 1) (.loop { (rec .ready none) with state := .exhausted }) (fun _ => rfl)
        rw [hrec] at o4
        exact hdone w.heap.size R0' _ (Nat.le_refl _) (fun h => hd _ h (.inl rfl)) ⟨hf.sub, fun k h => by have := hf.lt k h; simpa using this, hf.only.trans o4 (fun i hi h => absurd hi (by omega))⟩
          (hI _ _ _ _ hi (o4.mono fun i _ h => ⟨by omega, fun h1 => hd _ h1 (.inr h)⟩)) ((o4.block _ (ltOf hk) (by omega)).trans hk)
      · have hend := run_endLoop (P := P) hl (by rw [hrec]; simp)
        rw [hrec] at hend
        refine ⟨some c, _, hend, ?_⟩
        have o4 := (Only.refl (fun k => k = w.heap.size + 1) W2).putObj (w.heap.size + 1) (.loop { (rec .done (some c)) with state := .exhausted }) (fun _ => rfl)
        rw [hrec] at o4
        exact hstop w.heap.size c pre R0' _ (Nat.le_refl _) (fun h => hd _ h (.inl rfl)) hpre ⟨hf.sub, fun k h => by have := hf.lt k h; simpa using this, hf.only.trans o4 (fun i hi h => absurd hi (by omega))⟩
          (hIx _ _ _ _ _ hi (o4.mono fun i _ h => ⟨by omega, fun h1 => hd _ h1 (.inr h)⟩)) ((o4.block _ (ltOf hk) (by omega)).trans hk)
end Go.Proofs.YtklfojmflmablaaGreatDoor
