/- Package arena: Less. -/
import Derived.Deep.RegionHeld3
import Derived.Test.YtklfojmflmablaaGreatDoorAw
namespace Go.Proofs.YtklfojmflmablaaGreatDoor
open Go Go.RowKit Go.Shelf

def cmpI (x y : Int) : Int := if x < y then -1 else if y < x then 1 else 0
theorem nan8 (x : Int) (w : World) : Calls Tryz.prog 179 #[.int .u8 x] w fun e w' => e = .returned (.bool false) ∧ w = w' := by
  go_enter Tryz.func179, Tryz.ntmps179
  go_wp2
  all_goals first | (go_ret; exact ⟨rfl, rfl⟩) | (go_ret; simp)
theorem nan64 (x : Int) (w : World) : Calls Tryz.prog 178 #[.int .i64 x] w fun e w' => e = .returned (.bool false) ∧ w = w' := by
  go_enter Tryz.func178, Tryz.ntmps178
  go_wp2
  all_goals first | (go_ret; exact ⟨rfl, rfl⟩) | (go_ret; simp)
set_option maxRecDepth 100000 in
theorem cmp8 (x y : Int) (w : World) : Calls Tryz.prog 120 #[.int .u8 x, .int .u8 y] w fun e w' => e = .returned (.int .i64 (cmpI x y)) ∧ w = w' := by
  have HR := Lib.hid (show cmpI x y = if x < y then -1 else if y < x then 1 else 0 from rfl)
  obtain ⟨R, hR⟩ : ∃ R, cmpI x y = R := ⟨_, rfl⟩
  rw [hR] at HR ⊢
  clear hR
  by_cases h1 : x < y
  · have := HR.out
    rw [if_pos h1] at this
    subst this
    go_enter Tryz.func120, Tryz.ntmps120
    go_wp2_with (go_at_call 179; refine (nan8 _ _).mono ?_; rintro e w2 ⟨rfl, rfl⟩)
    go_ret
    exact ⟨rfl, rfl⟩
  · by_cases h2 : y < x
    · have := HR.out
      rw [if_neg h1, if_pos h2] at this
      subst this
      go_enter Tryz.func120, Tryz.ntmps120
      go_wp2_with (go_at_call 179; refine (nan8 _ _).mono ?_; rintro e w2 ⟨rfl, rfl⟩)
      go_ret
      exact ⟨rfl, rfl⟩
    · have := HR.out
      rw [if_neg h1, if_neg h2] at this
      subst this
      go_enter Tryz.func120, Tryz.ntmps120
      go_wp2_with (go_at_call 179; refine (nan8 _ _).mono ?_; rintro e w2 ⟨rfl, rfl⟩)
      go_ret
      exact ⟨rfl, rfl⟩
set_option maxRecDepth 100000 in
theorem cmp64 (x y : Int) (w : World) : Calls Tryz.prog 119 #[.int .i64 x, .int .i64 y] w fun e w' => e = .returned (.int .i64 (cmpI x y)) ∧ w = w' := by
  have HR := Lib.hid (show cmpI x y = if x < y then -1 else if y < x then 1 else 0 from rfl)
  obtain ⟨R, hR⟩ : ∃ R, cmpI x y = R := ⟨_, rfl⟩
  rw [hR] at HR ⊢
  clear hR
  by_cases h1 : x < y
  · have := HR.out
    rw [if_pos h1] at this
    subst this
    go_enter Tryz.func119, Tryz.ntmps119
    go_wp2_with (go_at_call 178; refine (nan64 _ _).mono ?_; rintro e w2 ⟨rfl, rfl⟩)
    go_ret
    exact ⟨rfl, rfl⟩
  · by_cases h2 : y < x
    · have := HR.out
      rw [if_neg h1, if_pos h2] at this
      subst this
      go_enter Tryz.func119, Tryz.ntmps119
      go_wp2_with (go_at_call 178; refine (nan64 _ _).mono ?_; rintro e w2 ⟨rfl, rfl⟩)
      go_ret
      exact ⟨rfl, rfl⟩
    · have := HR.out
      rw [if_neg h1, if_neg h2] at this
      subst this
      go_enter Tryz.func119, Tryz.ntmps119
      go_wp2_with (go_at_call 178; refine (nan64 _ _).mono ?_; rintro e w2 ⟨rfl, rfl⟩)
      go_ret
      exact ⟨rfl, rfl⟩

def orRes : List Int → Int
  | [] => 0
  | x :: l => if x = 0 then orRes l else x
theorem orRes_skip : ∀ (l : List Int) (k : Nat) (x : Int), (∀ j, j < k → l[j]? = some 0) → l[k]? = some x → x ≠ 0 → orRes l = x
  | [], k, x, _, h, _ => by simp at h
  | y :: l, 0, x, _, h, hx => by
    obtain rfl : y = x := by simpa using h
    unfold orRes
    rw [if_neg hx]
  | y :: l, k + 1, x, h0, h, hx => by
    obtain rfl : y = 0 := by simpa using h0 0 (by omega)
    unfold orRes
    rw [if_pos rfl]
    exact orRes_skip l k x (fun j hj => by simpa using h0 (j + 1) (by omega)) (by simpa using h) hx
theorem orRes_none : ∀ (l : List Int), (∀ j, j < l.length → l[j]? = some 0) → orRes l = 0
  | [], _ => rfl
  | y :: l, h => by
    obtain rfl : y = 0 := by simpa using h 0 (by simp)
    unfold orRes
    rw [if_pos rfl]
    exact orRes_none l (fun j hj => by simpa using h (j + 1) (by simpa using hj))
set_option maxRecDepth 100000 in
theorem or_any (g : Nat) (l : List Int) (w : World) (hl : l.length = 4) (hc : ∀ (i : Nat) x, l[i]? = some x → w.cell? ⟨g, i, none⟩ = some (.int .i64 x)) :
    Calls Tryz.prog 118 #[.slice (some ⟨g, 0, none⟩) 4 4] w fun e w' => e = .returned (.int .i64 (orRes l)) ∧ w = w' := by
  have HC := Lib.hid hc
  have HL := Lib.hid hl
  obtain ⟨R, hR⟩ : ∃ R, orRes l = R := ⟨_, rfl⟩
  have HR := Lib.hid hR
  rw [hR]
  clear hc hl hR
  go_enter Tryz.func118, Tryz.ntmps118
  go_wp2
  go_loopw [8] (fun i wr => ∃ k : Nat, k ≤ 4 ∧ i = .int .i64 k ∧ Hid (∀ j, j < k → l[j]? = some 0) ∧ w = wr) (fun i _ => 4 - (intOf i).toNat)
  case atStart => exact ⟨0, by omega, rfl, Lib.hid (by intro j hj; omega), rfl⟩
  case round =>
    obtain ⟨k, hk, rfl, hz, rfl⟩ := hrel
    by_cases h4 : k = 4
    · subst h4
      have hr := orRes_none l (by rw [HL.out]; exact hz.out)
      rw [HR.out] at hr
      subst hr
      go_wp2
      go_ret
      exact ⟨rfl, rfl⟩
    · have hk4 : (k : Int) < 4 := by omega
      obtain ⟨x, hx⟩ : ∃ x, l[k]? = some x := ⟨_, List.getElem?_eq_getElem (by rw [HL.out]; omega)⟩
      have hcell := HC.out k x hx
      have HX := Lib.hid hx
      have hw1 : IntKind.i64.wrap ((k : Int) + 1) = ((k + 1 : Nat) : Int) := by rw [IntKind.wrap_i64]; omega
      clear hx h4
      by_cases h0 : x = 0
      · subst h0
        go_wp2
        go_roundw
        case rel => exact ⟨k + 1, by omega, rfl, Lib.hid (fun j hj => by by_cases h : j = k; (· subst h; exact HX.out); (· exact hz.out j (by omega))), trivial⟩
        case measure => simp only [intOf]; omega
      · have b0 : (x == 0) = false := by simpa using h0
        have hr := orRes_skip l k x hz.out HX.out h0
        rw [HR.out] at hr
        subst hr
        go_wp2
        go_ret
        exact ⟨rfl, rfl⟩

def lessB (a b : Mv) : Bool := decide (orRes [cmpI a.id b.id, cmpI a.arg b.arg, cmpI a.kind b.kind, cmpI a.n b.n] < 0)
set_option maxRecDepth 100000 in
set_option maxHeartbeats 1000000 in
theorem less_any (a b : Mv) (w : World) : Calls Tryz.prog 48 #[mvV a, mvV b] w fun e w' => e = .returned (.bool (lessB a b)) ∧ Below w.heap.size w w' := by
  unfold lessB
  have hb : Below w.heap.size w ((w.alloc (.cells #[.int .i64 a.id, .int .i64 a.arg, .int .u8 a.kind, .int .i64 a.n] 40)).alloc (.cells #[.int .i64 b.id, .int .i64 b.arg, .int .u8 b.kind, .int .i64 b.n] 40)) := ((Below.refl _ w).alloc (Nat.le_refl _) _).alloc (by simp) _
  have x0 : BoxM ((w.alloc (.cells #[.int .i64 a.id, .int .i64 a.arg, .int .u8 a.kind, .int .i64 a.n] 40)).alloc (.cells #[.int .i64 b.id, .int .i64 b.arg, .int .u8 b.kind, .int .i64 b.n] 40)) w.heap.size a := (Below.heap_alloc _ _ _ (by simp)).trans (BoxM.new w a)
  have x1 : BoxM ((w.alloc (.cells #[.int .i64 a.id, .int .i64 a.arg, .int .u8 a.kind, .int .i64 a.n] 40)).alloc (.cells #[.int .i64 b.id, .int .i64 b.arg, .int .u8 b.kind, .int .i64 b.n] 40)) (w.heap.size + 1) b := by
    have := BoxM.new (w.alloc (.cells #[.int .i64 a.id, .int .i64 a.arg, .int .u8 a.kind, .int .i64 a.n] 40)) b; rwa [World.size_alloc] at this
  obtain ⟨w1, hw1⟩ : ∃ w1, (w.alloc (.cells #[.int .i64 a.id, .int .i64 a.arg, .int .u8 a.kind, .int .i64 a.n] 40)).alloc (.cells #[.int .i64 b.id, .int .i64 b.arg, .int .u8 b.kind, .int .i64 b.n] 40) = w1 := ⟨_, rfl⟩
  rw [hw1] at hb x0 x1
  have HB := Lib.hid hb
  obtain ⟨i, ar, k, n⟩ := a
  obtain ⟨i', ar', k', n'⟩ := b
  have c0 := x0.c0
  have c1 := x0.c1
  have c2 := x0.c2
  have c3 := x0.c3
  have d0 := x1.c0
  have d1 := x1.c1
  have d2 := x1.c2
  have d3 := x1.c3
  unfold mvV
  dsimp only at hw1 c0 c1 c2 c3 d0 d1 d2 d3 ⊢
  have C0 := Lib.hid (cmp64 i i')
  have C1 := Lib.hid (cmp64 ar ar')
  have C2 := Lib.hid (cmp8 k k')
  have C3 := Lib.hid (cmp64 n n')
  obtain ⟨r0, e0⟩ : ∃ r, cmpI i i' = r := ⟨_, rfl⟩
  obtain ⟨r1, e1⟩ : ∃ r, cmpI ar ar' = r := ⟨_, rfl⟩
  obtain ⟨r2, e2⟩ : ∃ r, cmpI k k' = r := ⟨_, rfl⟩
  obtain ⟨r3, e3⟩ : ∃ r, cmpI n n' = r := ⟨_, rfl⟩
  rw [e0] at C0 ⊢
  rw [e1] at C1 ⊢
  rw [e2] at C2 ⊢
  rw [e3] at C3 ⊢
  have CO : Hid (∀ (W : World) g, W.heap[g]? = some (.cells #[.int .i64 r0, .int .i64 r1, .int .i64 r2, .int .i64 r3] 3 (0, 0)) → Calls Tryz.prog 118 #[.slice (some ⟨g, 0, none⟩) 4 4] W fun e w' => e = .returned (.int .i64 (orRes [r0, r1, r2, r3])) ∧ W = w') := Lib.hid fun W g hg =>
    or_any g [r0, r1, r2, r3] _ rfl (fun j x hx => by
      rw [cell_of_row _ _ j _ 3 (0, 0) hg]
      match j, hx with
      | 0, hx => simp at hx; subst hx; rfl
      | 1, hx => simp at hx; subst hx; rfl
      | 2, hx => simp at hx; subst hx; rfl
      | 3, hx => simp at hx; subst hx; rfl
      | (j + 4), hx => simp at hx)
  obtain ⟨R, hR⟩ : ∃ R, orRes [r0, r1, r2, r3] = R := ⟨_, rfl⟩
  rw [hR] at CO ⊢
  clear hb x0 x1 e0 e1 e2 e3 hR
  go_enter Tryz.func48, Tryz.ntmps48
  go_wp2
  go_region_held3 (fun W => W.cell? ⟨w.heap.size, 0, none⟩ = some (.int .i64 i) ∧ W.cell? ⟨w.heap.size, 1, none⟩ = some (.int .i64 ar) ∧ W.cell? ⟨w.heap.size, 2, none⟩ = some (.int .u8 k) ∧ W.cell? ⟨w.heap.size, 3, none⟩ = some (.int .i64 n) ∧
      W.cell? ⟨w.heap.size + 1, 0, none⟩ = some (.int .i64 i') ∧ W.cell? ⟨w.heap.size + 1, 1, none⟩ = some (.int .i64 ar') ∧ W.cell? ⟨w.heap.size + 1, 2, none⟩ = some (.int .u8 k') ∧ W.cell? ⟨w.heap.size + 1, 3, none⟩ = some (.int .i64 n'))
    (first
      | go_keep
      | (go_split_ands
         refine ⟨?_, ?_, ?_, ?_, ?_, ?_, ?_, ?_⟩ <;> (repeat' (first
           | assumption
           | refine cell_alloc_some _ ?_)))
      | (trace_state; fail))
    (first
    | (go_at_call 119; (with_reducible refine (C0.out _).mono ?_); rintro e w2 ⟨rfl, rfl⟩)
    | (go_at_call 119; (with_reducible refine (C1.out _).mono ?_); rintro e w3 ⟨rfl, rfl⟩)
    | (go_at_call 120; (with_reducible refine (C2.out _).mono ?_); rintro e w4 ⟨rfl, rfl⟩)
    | (go_at_call 119; (with_reducible refine (C3.out _).mono ?_); rintro e w5 ⟨rfl, rfl⟩)
    | (go_at_call 118; refine (CO.out ((w1.alloc (.cells #[.int .i64 r0, .int .i64 r1, .int .i64 r2, .int .i64 r3] 3)).drew) w1.heap.size (World.alloc_heap_new w1 _)).mono ?_; rintro e w6 ⟨rfl, rfl⟩))
  all_goals go_wp2
  all_goals go_ret
  all_goals exact ⟨rfl, HB.out.trans ((((Below.refl _ w1).alloc (Nat.le_refl _) _).drew).mono HB.out.size)⟩
end Go.Proofs.YtklfojmflmablaaGreatDoor
