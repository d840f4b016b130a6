/- The contracts of the reference's All, Tokens, Notes. -/
import Derived.Test.YtjadjmkbjolklaaDoorTokG
import Derived.Test.YtjadjmkbjolklaaDoorRefB
import Derived.Maps.AppendAt
namespace Go.Proofs.YtjadjmkbjolklaaDoor
open Go.RowKit Go.Maps

/-- Two rows that do not share a block. -/
def Apart (v u : Value) : Prop := v.ownBlock = none ∨ u.ownBlock = none ∨ v.ownBlock ≠ u.ownBlock
theorem Apart.fst {v u : Value} (h : Apart v u) : v.ownBlock = none ∨ v.ownBlock ≠ u.ownBlock := by
  rcases h with h | h | h
  · exact .inl h
  · cases hv : v.ownBlock with
    | none => exact .inl rfl
    | some g => exact .inr (by rw [h]; simp)
  · exact .inr h
theorem Apart.symm {v u : Value} (h : Apart v u) : Apart u v := by
  rcases h with h | h | h
  · exact .inr (.inl h)
  · exact .inl h
  · exact .inr (.inr (Ne.symm h))
theorem row_lt {W : World} {n₀ : Nat} {e : TypeId} {size k : Nat} {v : Value} {xs : List Value} (h : W.ownsRow n₀ e size v k xs) {j : Nat} (ej : v.ownBlock = some j) : j < W.heap.size := by
  rcases h.2 with ⟨rfl, _⟩ | ⟨g, cap, cur, rfl, hb, hg, _⟩
  · simp [Value.ownBlock] at ej
  · obtain rfl : g = j := by simpa [Value.ownBlock] using ej
    exact (Array.getElem?_eq_some_iff.1 hg).1
theorem Apart.app {v v' u : Value} {N : Nat} (h : Apart v u) (h' : v'.ownBlock = v.ownBlock ∨ v'.ownBlock = some N) (hlt : ∀ g, u.ownBlock = some g → g < N) : Apart v' u := by
  rcases h' with h' | h'
  · unfold Apart
    rw [h']
    exact h
  · refine .inr ?_
    cases hu : u.ownBlock with
    | none => exact .inl rfl
    | some g =>
      refine .inr ?_
      rw [h']
      intro e
      injection e with e
      have := hlt g hu
      omega
theorem Apart.nil (u : Value) : Apart (.slice none 0 0) u := .inl rfl

theorem row_call {W W' : World} {n₀ : Nat} {e : TypeId} {size k : Nat} {v : Value} {xs : List Value} (h : W.ownsRow n₀ e size v k xs) (hb : Below W.heap.size W W') : W'.ownsRow n₀ e size v k xs :=
  h.kept (only_of_below hb none) (by cases hv : v.ownBlock <;> simp)

theorem toks_app {W : World} {n₀ : Nat} {v : Value} {l : List Piece} {x : Piece} (h : W.ownsRow n₀ 63 3 v (l.length + 1) (tokCells l ++ [.int .u8 x.kind, .string x.text, .int .i64 x.at_])) : OwnToks W n₀ v (l ++ [x]) := by
  unfold OwnToks
  rw [tokCells_append, List.length_append]
  exact h

theorem lineEnd_size {s : ByteArray} {k : Nat} (hk : k < s.size) (h : s[k].toNat = 126) : 1 ≤ (s.extract k (lineEndP s k)).size ∧ k + (s.extract k (lineEndP s k)).size = lineEndP s k ∧ lineEndP s k ≤ s.size ∧ k < lineEndP s k ∧
    (s.extract k (lineEndP s k)).extract 1 (s.extract k (lineEndP s k)).size = s.extract (k + 1) (lineEndP s k) := by
  have h1 := lineEnd_gt hk h
  have h2 := lineEndP_le s k (by omega)
  have h3 : (s.extract k (lineEndP s k)).size = lineEndP s k - k := by simp; omega
  refine ⟨by omega, by omega, h2, by omega, ?_⟩
  rw [h3]
  apply ByteArray.ext
  apply Array.ext'
  simp only [ByteArray.data_extract, Array.toList_extract, List.extract_eq_take_drop, List.drop_take, List.drop_drop, List.take_take]
  congr 1
  omega

set_option maxRecDepth 100000 in
set_option maxHeartbeats 2000000 in
theorem refAll_any (s : ByteArray) (w : World) (hs : s.size ≤ 2500) :
    Calls Tryd.prog 52 #[.string s] w fun e w' => ∃ v1 v2, e = .returned (.tuple #[v1, v2, .int .i64 (tokRes [] (pcs s)).2.1, .int .i64 (tokRes [] (pcs s)).2.2]) ∧ Below w.heap.size w w' ∧ OwnToks w' w.heap.size v1 (tokRes [] (pcs s)).1 := by
  obtain ⟨i0, hi, hz0, hz1, hz2⟩ := info_parts info63
  have hs47 : s.size ≤ 140737488355328 := by omega
  go_enter Tryd.func52, Tryd.ntmps52
  go_wp2
  go_loopw [6, 7, 8] (fun o nt i wr => ∃ (k : Nat) (acc ns : List Piece), k ≤ s.size ∧ i = .int .i64 k ∧ Hid (AllP s k acc ns) ∧ wr.ownsRow w.heap.size 63 3 o acc.length (tokCells acc) ∧ wr.ownsRow w.heap.size 63 3 nt ns.length (tokCells ns) ∧ Hid (Apart o nt) ∧ acc.length ≤ k ∧ ns.length ≤ k ∧ Below w.heap.size w wr) (fun _ _ i _ => s.size - (intOf i).toNat)
  case atStart => exact ⟨0, [], [], by omega, rfl, Lib.hid (allP_start s), World.ownsRow_nil _ _ _ _, World.ownsRow_nil _ _ _ _, Lib.hid (Apart.nil _), by simp, by simp, Below.refl _ _⟩
  case round =>
    obtain ⟨k, acc, ns, hk, rfl, HP, hrow, hnrow, HA, hak, hnk, hb⟩ := hrel
    have hsz := hb.size
    by_cases hlt : k < s.size
    · have i1 := idxb s k hlt
      have HGK := Lib.hid (getBang s k hlt)
      by_cases h32 : (s[k]!).toNat = 32
      · have HX := Lib.hid (allP_gap HP.out hlt (.inl (by rw [← HGK.out]; exact h32)))
        have q1 : (((s[k]!).toNat : Int) == 32) = true := by simp [h32]
        clear h32
        generalize (s[k]!).toNat = b at i1 q1
        go_wp2_with fail
        go_roundw
        case rel => exact ⟨k + 1, acc, ns, by omega, by go_num, HX, hrow, hnrow, HA, by omega, by omega, hb⟩
        case measure => simp [intOf]; omega
      · have q1 : (((s[k]!).toNat : Int) == 32) = false := by simp; omega
        by_cases h10 : (s[k]!).toNat = 10
        · have HX := Lib.hid (allP_gap HP.out hlt (.inr (by rw [← HGK.out]; exact h10)))
          have q2 : (((s[k]!).toNat : Int) == 10) = true := by simp [h10]
          clear h32 h10
          generalize (s[k]!).toNat = b at i1 q1 q2
          go_wp2_with fail
          go_roundw
          case rel => exact ⟨k + 1, acc, ns, by omega, by go_num, HX, hrow, hnrow, HA, by omega, by omega, hb⟩
          case measure => simp [intOf]; omega
        · have q2 : (((s[k]!).toNat : Int) == 10) = false := by simp; omega
          by_cases h126 : (s[k]!).toNat = 126
          · have q3 : (((s[k]!).toNat : Int) == 126) = true := by simp [h126]
            have hn126 : s[k].toNat = 126 := by rw [← HGK.out]; exact h126
            have HX := Lib.hid (allP_note HP.out hlt hn126)
            obtain ⟨e1, e2, e3, e4, e5⟩ := lineEnd_size hlt hn126
            have C53 := Lib.hid (fun w => note_any s k w hs47 (by omega))
            rw [← e5] at HX
            generalize s.extract k (lineEndP s k) = x at HX C53 e1 e2
            have HE2 := Lib.hid e2
            have hx47 : x.size ≤ 2500 := by omega
            clear h32 h10 h126 hn126 e5 e2
            generalize (s[k]!).toNat = b at i1 q1 q2 q3
            go_wp2_with (first
              | (go_at_call 53; refine (C53.out _).mono ?_; rintro e w' ⟨rfl, rfl⟩)
              | (at_builtin; refine wpList_append_own_at _ rfl _ _ 23 rfl w.heap.size 63 i0 _ 3 32 Tryd.underlying23 hi hz0 hz1 hz2 rfl (by decide) _ _ _ rfl (hnrow.alloc _) ⟨wr.heap.size, 0, none⟩ 1 1 [.int .u8 5, .string (x.extract 1 x.size), .int .i64 k] rfl rfl (cells_new _ _ _) (by simp [Value.oneCell']) (by unfold maxLen; omega) (by omega) (by simp; omega) ?_; intro v' w3 hown' hgrow' _ hat))
            have HA' := Lib.hid ((HA.out.symm.app hat (fun g hg => Nat.lt_of_lt_of_le (row_lt hrow hg) (by simp))).symm)
            have hrow3 := (hrow.alloc _).kept hgrow' HA.out.fst
            have hb3 : Below w.heap.size w w3 := (hb.alloc hsz _).grown hgrow' (by simp; omega) (fun k e => row_base hnrow e)
            go_roundw
            case rel => exact ⟨lineEndP s k, acc, _, by omega, numS (by have := HE2.out; omega), HX, hrow3, toks_app (x := ⟨5, x.extract 1 x.size, k, 0⟩) hown', HA', by omega, by simp; omega, hb3⟩
            case measure => simp [intOf]; omega
          · have q3 : (((s[k]!).toNat : Int) == 126) = false := by simp; omega
            have g1 : ¬(s[k].toNat = 32 ∨ s[k].toNat = 10) := by rw [← HGK.out]; omega
            have g2 : s[k].toNat ≠ 126 := by rw [← HGK.out]; exact h126
            have HBAD := Lib.hid (fun h => allP_bad HP.out hlt g1 g2 h)
            have HMANY := Lib.hid (fun h h' => allP_many HP.out hlt g1 g2 h h')
            have HOK := Lib.hid (fun h h' => allP_tok HP.out hlt g1 g2 h h')
            have HLE := Lib.hid (fun h => tokRef_le hlt g2 h)
            have C89 := Lib.hid (fun w => refToken_any s k w hs47 hlt)
            unfold tokVal at C89
            clear h32 h10 h126 g1 g2
            generalize (tokRef s k).1 = a at C89 HOK
            generalize (tokRef s k).2.1 = t at C89 HOK HLE
            generalize (tokRef s k).2.2 = er at C89 HOK HLE HBAD HMANY
            generalize (s[k]!).toNat = b at i1 q1 q2 q3
            obtain ⟨A6, c6, rfl⟩ := slice_of hrow
            by_cases her : er = 0
            · subst her
              rw [if_pos rfl] at C89
              obtain ⟨l1, l2⟩ := HLE.out rfl
              by_cases h9 : acc.length = 900
              · have q4 : ((acc.length : Int) == 900) = true := by simp; omega
                have HT := Lib.hid (HMANY.out rfl h9)
                clear h9
                go_wp2_with (go_at_call 89; refine (C89.out _).mono ?_; rintro e w2 ⟨rfl, hb2⟩; have HB2 := Lib.hid ((hb.trans (hb2.mono hsz)).alloc (Nat.le_trans hsz hb2.size) (.cells #[.int .u8 a, .string t, .int .i64 k] 63)); clear hb2)
                refine bodyPost_ret (v := .tuple #[.slice none 0 0, .slice none 0 0, .int .i64 k, .int .i64 5]) (by simp [results, Tryd.results52, go_sem]) rfl ?_
                rw [HT.out]
                exact ⟨_, _, rfl, HB2.out, World.ownsRow_nil _ _ _ _⟩
              · have q4 : ((acc.length : Int) == 900) = false := by simp; omega
                have HX := Lib.hid (HOK.out rfl h9)
                clear h9
                have ht47 : t.size ≤ 2500 := by omega
                go_wp2_with (first
                  | (go_at_call 89; refine (C89.out _).mono ?_; rintro e w2 ⟨rfl, hb2⟩; have HB2 := Lib.hid (hb.trans (hb2.mono hsz)); have hrow2 := row_call hrow hb2; have HN2 := Lib.hid (row_call hnrow hb2); have hsz2 := HB2.out.size; clear hb2)
                  | (at_builtin; refine wpList_append_own_at _ rfl _ _ 23 rfl w.heap.size 63 i0 _ 3 32 Tryd.underlying23 hi hz0 hz1 hz2 rfl (by decide) _ _ _ rfl ((hrow2.alloc _).alloc _) ⟨w2.heap.size + 1, 0, none⟩ 1 1 [.int .u8 a, .string t, .int .i64 k] rfl rfl (by have h := cells_new (w2.alloc (.cells #[.int .u8 a, .string t, .int .i64 k] 63)) 63 [.int .u8 a, .string t, .int .i64 k]; rw [World.size_alloc] at h; exact h) (by simp [Value.oneCell']) (by unfold maxLen; omega) (by omega) (by simp; omega) ?_; intro v' w3 hown' hgrow' _ hat; have hbx := (hgrow'.block w2.heap.size (by simp; omega) (fun e => by have := row_lt hrow2 e.symm; omega)).trans ((Box3.new w2 a t k).below ((Below.refl _ _).alloc (Nat.le_refl _) (.cells #[.int .u8 a, .string t, .int .i64 k] 63)) (by simp)); have hc1 : w3.cell? ⟨w2.heap.size, 1, none⟩ = some (.string t) := Box3.c1 hbx; clear hbx))
                have HA' := Lib.hid (HA.out.app hat (fun g hg => Nat.lt_of_lt_of_le (row_lt HN2.out hg) (by simp; omega)))
                have hn3 := ((HN2.out.alloc (.cells #[.int .u8 a, .string t, .int .i64 k] 63)).alloc (.cells #[.int .u8 a, .string t, .int .i64 k] 63)).kept hgrow' HA.out.symm.fst
                have hb3 : Below w.heap.size w w3 := ((HB2.out.alloc hsz2 _).alloc (by simp; omega) _).grown hgrow' (by simp; omega) (fun k e => row_base hrow2 e)
                go_roundw
                case rel => exact ⟨k + t.size, _, ns, by omega, numS (by omega), HX, toks_app (x := ⟨a, t, k, 0⟩) hown', hn3, HA', by simp; omega, by omega, hb3⟩
                case measure => simp [intOf]; omega
            · have q4 : (er == 0) = false := by simpa using her
              have q5 : (er != 0) = true := by simpa using her
              have HT := Lib.hid (HBAD.out her)
              rw [if_neg her] at C89
              clear her
              go_wp2_with (go_at_call 89; refine (C89.out _).mono ?_; rintro e w2 ⟨rfl, hb2⟩; have HB2 := Lib.hid ((hb.trans (hb2.mono hsz)).alloc (Nat.le_trans hsz hb2.size) (.cells #[.int .u8 a, .string t, .int .i64 0] 63)); clear hb2)
              refine bodyPost_ret (v := .tuple #[.slice none 0 0, .slice none 0 0, .int .i64 k, .int .i64 er]) (by simp [results, Tryd.results52, go_sem]) rfl ?_
              rw [HT.out]
              exact ⟨_, _, rfl, HB2.out, World.ownsRow_nil _ _ _ _⟩
    · have HE := Lib.hid (allP_end HP.out (by omega)).1
      go_wp2
      refine bodyPost_ret (v := .tuple #[_, _, .int .i64 0, .int .i64 0]) (by simp [results, Tryd.results52, go_sem]; exact ⟨rfl, rfl⟩) rfl ?_
      rw [HE.out]
      exact ⟨_, _, rfl, hb, hrow⟩
end Go.Proofs.YtjadjmkbjolklaaDoor
