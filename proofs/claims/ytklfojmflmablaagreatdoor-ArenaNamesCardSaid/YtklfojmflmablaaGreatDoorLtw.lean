/- ArenaTexts: what is read of what was written; the reference: Decimal, Words, Text, Digits. -/
import Derived.Test.YtklfojmflmablaaGreatDoorTx
import Derived.Test.YtklfojmflmablaaGreatDoorPa
/- The reference's texts: Decimal. -/
namespace Go.Proofs.YtklfojmflmablaaGreatDoor
open Go Go.RowKit Go.Shelf

theorem dec_size (n : Nat) : ∀ k, n < 10 ^ (k + 1) → (Lib.decDigits n).length ≤ k + 1 := by
  intro k
  induction k generalizing n with
  | zero => intro h; rw [Lib.decDigits_one (by omega)]; simp
  | succ k ih =>
    intro h
    rw [Lib.decDigits]
    split
    · simp
    · rw [List.length_append]
      have := ih (n / 10) (by rw [Nat.pow_succ] at h; omega)
      simp; omega
theorem numTx_size20 {n : Nat} (h : n ≤ 4611686018427387904) : (numTx (n : Int)).size ≤ 20 := by
  have := dec_size n 19 (by omega)
  simpa [numTx, ByteArray.size] using this
theorem enc_digit (d : Nat) (h : d < 10) : Utf8.encode (48 + (d : Int)) = ⟨#[UInt8.ofNat (48 + d)]⟩ := by
  have : d = 0 ∨ d = 1 ∨ d = 2 ∨ d = 3 ∨ d = 4 ∨ d = 5 ∨ d = 6 ∨ d = 7 ∨ d = 8 ∨ d = 9 := by omega
  rcases this with h | h | h | h | h | h | h | h | h | h <;> subst h <;> rfl
theorem numTx_one {n : Nat} (h : n < 10) : numTx (n : Int) = ⟨#[UInt8.ofNat (48 + n)]⟩ := by
  unfold numTx
  rw [Int.toNat_natCast, Lib.decDigits, dif_pos h]
theorem numTx_more {n : Nat} (h : ¬ n < 10) : numTx (n : Int) = numTx ((n / 10 : Nat) : Int) ++ ⟨#[UInt8.ofNat (48 + n % 10)]⟩ := by
  unfold numTx
  rw [Int.toNat_natCast, Int.toNat_natCast, Lib.decDigits, dif_neg h]
  apply ByteArray.ext
  simp

set_option maxRecDepth 100000 in
theorem decimal_any (n : Nat) : n ≤ 4611686018427387904 → ∀ w, Calls Tryz.prog 159 #[.int .i64 (n : Int)] w fun e w' => e = .returned (.string (numTx (n : Int))) ∧ w = w' := by
  induction n using Nat.strongRecOn with
  | ind n ih =>
    intro hn w
    obtain ⟨d, hd⟩ : ∃ d, n % 10 = d := ⟨_, rfl⟩
    have hd10 : d < 10 := by omega
    have hr : (n : Int).tmod 10 = (d : Int) := by rw [← hd]; rfl
    have hneg : ¬ ((d : Int) < 0) := by omega
    have hE := enc_digit d hd10
    have h48 : IntKind.i32.wrap (48 + (d : Int)) = 48 + (d : Int) := by rw [IntKind.wrap_i32]; omega
    by_cases h10 : n < 10
    · have hq : (n : Int).tdiv 10 = 0 := by
        have : (n : Int).tdiv 10 = ((n / 10 : Nat) : Int) := rfl
        rw [this]; omega
      rw [numTx_one h10]
      obtain rfl : d = n := by omega
      have hn0 : ¬ ((d : Int) < 0) := by omega
      clear ih hd
      go_enter Tryz.func159, Tryz.ntmps159
      go_wp2
      go_ret
      exact ⟨by simp, rfl⟩
    · have C := ih (n / 10) (by omega) (by omega)
      have hq : (n : Int).tdiv 10 = ((n / 10 : Nat) : Int) := rfl
      obtain ⟨q, hqq⟩ : ∃ q, n / 10 = q := ⟨_, rfl⟩
      have hne : ((q : Int) != 0) = true := by
        have : (q : Int) ≠ 0 := by omega
        simpa using this
      rw [numTx_more h10, hqq, hd]
      rw [hqq] at C hq
      have hsz : (numTx (q : Int)).size ≤ 1000 := by have := numTx_size20 (n := q) (by omega); omega
      have CD := Lib.hid C
      obtain ⟨T, hT⟩ : ∃ T, numTx (q : Int) = T := ⟨_, rfl⟩
      rw [hT] at CD hsz ⊢
      obtain ⟨D, hD⟩ : ∃ D : ByteArray, (⟨#[UInt8.ofNat (48 + d)]⟩ : ByteArray) = D := ⟨_, rfl⟩
      have hD1 : D.size = 1 := by rw [← hD]; rfl
      have hsum : T.size + D.size ≤ 2000 := by omega
      rw [hD] at hE ⊢
      obtain ⟨z, hz⟩ : ∃ z : Int, (n : Int) = z := ⟨_, rfl⟩
      rw [hz] at hr hq ⊢
      obtain ⟨y, hy⟩ : ∃ y : Int, (q : Int) = y := ⟨_, rfl⟩
      have hwr : IntKind.i64.wrap (q : Int) = (q : Int) := by rw [IntKind.wrap_i64]; omega
      rw [hy] at hq hne CD hwr
      have hne0 : y ≠ 0 := by simpa using hne
      have a1 : ∀ W, (Op.stringOp .add T D).run Tryz.prog W = .ok (.string (T ++ D)) W := fun W => run_string_add_sum W T _ (by omega)
      clear ih hd C hqq hT h10 hn hD hz hy
      go_enter Tryz.func159, Tryz.ntmps159
      go_wp2_with (go_at_call 159; refine (CD.out _).mono ?_; rintro e w2 ⟨rfl, rfl⟩)
      go_ret
      exact ⟨rfl, rfl⟩
end Go.Proofs.YtklfojmflmablaaGreatDoor
/- Texts of moves: reading what was written. -/
namespace Go.Proofs.YtklfojmflmablaaGreatDoor
open Go Go.RowKit Go.Shelf

def isDg (c : UInt8) : Prop := 48 ≤ c.toNat ∧ c.toNat ≤ 57
theorem dg_nat {d : Nat} (h : d < 10) : (UInt8.ofNat (48 + d)).toNat = 48 + d := by
  rw [UInt8.toNat_ofNat']; omega
theorem dec_dg (n : Nat) : ∀ c ∈ Lib.decDigits n, isDg c := by
  induction n using Nat.strongRecOn with
  | ind n ih =>
    rw [Lib.decDigits]
    split
    · intro c hc
      obtain rfl : c = UInt8.ofNat (48 + n) := by simpa using hc
      unfold isDg; rw [dg_nat (by omega)]; omega
    · intro c hc
      rcases List.mem_append.1 hc with hc | hc
      · exact ih (n / 10) (by omega) c hc
      · obtain rfl : c = UInt8.ofNat (48 + n % 10) := by simpa using hc
        unfold isDg; rw [dg_nat (by omega)]; omega
theorem dec_ne (n : Nat) : Lib.decDigits n ≠ [] := by
  rw [Lib.decDigits]
  split <;> simp
theorem index_at (c : UInt8) (r : List UInt8) : ∀ p : List UInt8, c ∉ p → Lib.index (p ++ c :: r) [c] = p.length
  | [], _ => by simp [Lib.index]
  | b :: p, h => by
    have hb : b ≠ c := fun e => h (by simp [e])
    have hp : c ∉ p := fun e => h (by simp [e])
    have ih := index_at c r p hp
    rw [List.cons_append, Lib.index, ih]
    have h1 : ([c].isPrefixOf (b :: (p ++ c :: r))) = false := by simp [List.isPrefixOf]; exact fun e => hb e.symm
    rw [h1]
    have h2 : (((p.length : Nat) : Int) == -1) = false := by rw [beq_eq_false_iff_ne]; omega
    rw [h2]
    simp
theorem index_not (c : UInt8) : ∀ p : List UInt8, c ∉ p → Lib.index p [c] = -1
  | [], _ => by simp [Lib.index]
  | b :: p, h => by
    have hb : b ≠ c := fun e => h (by simp [e])
    have hp : c ∉ p := fun e => h (by simp [e])
    have ih := index_not c p hp
    rw [Lib.index, ih]
    have h1 : ([c].isPrefixOf (b :: p)) = false := by simp [List.isPrefixOf]; exact fun e => hb e.symm
    rw [h1]
    simp
theorem cut_at (c : UInt8) (p r : List UInt8) (h : c ∉ p) : Lib.cut (p ++ c :: r) [c] = (p, r, true) := by
  unfold Lib.cut
  rw [index_at c r p h, if_pos (by omega)]
  simp
theorem cut_not (c : UInt8) (p : List UInt8) (h : c ∉ p) : Lib.cut p [c] = (p, [], false) := by
  unfold Lib.cut
  rw [index_not c p h, if_neg (by omega)]
theorem parse_app : ∀ (l r : List UInt8) (acc u : Nat), Lib.parseUint10 acc l = .ok u → Lib.parseUint10 acc (l ++ r) = Lib.parseUint10 u r
  | [], r, acc, u, h => by
    simp only [Lib.parseUint10] at h
    injection h with h
    subst h; rfl
  | c :: l, r, acc, u, h => by
    rw [List.cons_append]
    simp only [Lib.parseUint10] at h ⊢
    split at h
    · rename_i h1
      rw [if_pos h1]
      split at h
      · cases h
      · rename_i h2
        rw [if_neg h2]
        split at h
        · cases h
        · rename_i h3
          rw [if_neg h3]
          exact parse_app l r _ u h
    · cases h
theorem parse_dec (n : Nat) : n ≤ 9223372036854775807 → Lib.parseUint10 0 (Lib.decDigits n) = .ok n := by
  induction n using Nat.strongRecOn with
  | ind n ih =>
    intro hn
    rw [Lib.decDigits]
    split
    · rename_i h
      simp only [Lib.parseUint10]
      rw [dg_nat h, if_pos (by omega), if_neg (by omega), if_neg (by omega)]
      congr 1; omega
    · rename_i h
      rw [parse_app _ _ 0 (n / 10) (ih (n / 10) (by omega) (by omega))]
      simp only [Lib.parseUint10]
      rw [dg_nat (Nat.mod_lt _ (by decide)), if_pos (by omega), if_neg (by omega), if_neg (by omega)]
      congr 1; omega
/-- The digits of a number are read as this number. -/
theorem num_dec (n : Nat) (h : n ≤ 9223372036854775807) : numOf ⟨(Lib.decDigits n).toArray⟩ = (n : Int) := by
  unfold numOf
  obtain ⟨c, r, e⟩ := List.exists_cons_of_ne_nil (dec_ne n)
  have hc := dec_dg n c (by rw [e]; simp)
  unfold isDg at hc
  have hp : Lib.parseMag (c :: r) = .ok n := by
    unfold Lib.parseMag
    rw [if_neg (by simp), ← e]
    exact parse_dec n h
  have : Lib.atoiAll (⟨(Lib.decDigits n).toArray⟩ : ByteArray).data.toList = .ok (n : Int) := by
    show Lib.atoiAll (Lib.decDigits n) = _
    rw [e, Lib.atoiAll]
    have h45 : ¬ (c.toNat = 45) := by omega
    rw [if_neg (by omega), hp]
    simp only [h45]
    rw [if_neg (by omega), if_neg (by simp)]
    simp
  rw [this]
theorem num_nil : numOf ⟨#[]⟩ = 0 := rfl

/-- The text of a number. -/
def itx (n : Int) : ByteArray := ⟨(Lib.itoa n).toArray⟩
theorem itx_nat (n : Int) (h : 0 ≤ n) : itx n = ⟨(Lib.decDigits n.toNat).toArray⟩ := by
  unfold itx Lib.itoa
  rw [if_neg (by omega)]
/-- A move that has a text. -/
def okMv (m : Mv) : Prop := hasTx m = true ∧ (m.kind = 1 ∨ m.kind = 2 ∨ m.kind = 3) ∧ m.id ≤ 9223372036854775807 ∧ m.arg ≤ 9223372036854775807 ∧ m.n ≤ 9223372036854775807
theorem okMv_facts {m : Mv} (h : okMv m) : 0 ≤ m.id ∧ 0 ≤ m.arg ∧ ((m.kind = 1 ∧ m.n = 0) ∨ (m.kind = 2 ∧ 0 ≤ m.n) ∨ (m.kind = 3 ∧ (m.n = -1 ∨ 0 ≤ m.n))) := by
  obtain ⟨h1, h2, _⟩ := h
  unfold hasTx at h1
  split at h1
  · cases h1
  · rename_i hn
    refine ⟨by omega, by omega, ?_⟩
    rcases h2 with h | h | h
    · left; rw [if_pos h] at h1; exact ⟨h, by simpa using h1⟩
    · right; left; rw [if_neg (by omega), if_neg (by omega)] at h1; exact ⟨h, by simpa using h1⟩
    · right; right
      rw [if_neg (by omega)] at h1
      split at h1
      · rename_i h3; exact ⟨h, .inl h3.2⟩
      · exact ⟨h, .inr (by simpa using h1)⟩
def sgB (k : Int) : UInt8 := if k = 1 then 63 else if k = 2 then 61 else 33
def plL (m : Mv) : List UInt8 := if m.arg = 0 then Lib.decDigits m.id.toNat else Lib.decDigits m.id.toNat ++ 46 :: Lib.decDigits m.arg.toNat
def vaL (m : Mv) : List UInt8 := if m.kind = 1 then [] else if m.n = -1 then [42] else Lib.decDigits m.n.toNat
theorem text_list {m : Mv} (h : okMv m) : textRes itx m = (⟨(plL m ++ sgB m.kind :: vaL m).toArray⟩, 0) := by
  obtain ⟨h1, h2, h3⟩ := okMv_facts h
  unfold textRes
  have hs : signOf m.kind = some ⟨#[sgB m.kind]⟩ := by
    unfold signOf sgB
    rcases h.2.1 with e | e | e <;> rw [e] <;> rfl
  rw [hs]
  simp only [h.1, if_true]
  congr 1
  have hp : placeTx itx m = ⟨(plL m).toArray⟩ := by
    unfold placeTx plL
    split
    · exact itx_nat _ h1
    · rw [itx_nat _ h1, itx_nat _ h2]
      apply ByteArray.ext
      simp
  have hv : valTx itx m = ⟨(vaL m).toArray⟩ := by
    unfold valTx vaL
    split
    · rfl
    · split
      · rfl
      · exact itx_nat _ (by omega)
  rw [hp, hv]
  apply ByteArray.ext
  simp
theorem dg_not {c : UInt8} {l : List UInt8} (hl : ∀ x ∈ l, isDg x) (hc : ¬ isDg c) : c ∉ l := fun h => hc (hl c h)
theorem sg_dg (k : Int) : ¬ isDg (sgB k) := by
  unfold sgB isDg
  split
  · decide
  · split <;> decide
theorem pl_sg (m : Mv) : sgB m.kind ∉ plL m := by
  unfold plL
  split
  · exact dg_not (dec_dg _) (sg_dg _)
  · intro h
    rcases List.mem_append.1 h with h | h
    · exact sg_dg _ (dec_dg _ _ h)
    · rcases List.mem_cons.1 h with h | h
      · unfold sgB at h
        split at h
        · cases h
        · split at h <;> cases h
      · exact sg_dg _ (dec_dg _ _ h)
/-- The program reads what it has written. -/
theorem read_text {m : Mv} (h : okMv m) : readRes (textRes itx m).1 ⟨#[sgB m.kind]⟩ m.kind = m := by
  obtain ⟨h1, h2, h3⟩ := okMv_facts h
  obtain ⟨_, _, b1, b2, b3⟩ := h
  rw [text_list ⟨by assumption, by assumption, b1, b2, b3⟩]
  have c1 : cut1 ⟨(plL m ++ sgB m.kind :: vaL m).toArray⟩ ⟨#[sgB m.kind]⟩ = ⟨(plL m).toArray⟩ := by
    unfold cut1
    show (⟨(Lib.cut (plL m ++ sgB m.kind :: vaL m) [sgB m.kind]).1.toArray⟩ : ByteArray) = _
    rw [cut_at _ _ _ (pl_sg m)]
  have c2 : cut2 ⟨(plL m ++ sgB m.kind :: vaL m).toArray⟩ ⟨#[sgB m.kind]⟩ = ⟨(vaL m).toArray⟩ := by
    unfold cut2
    show (⟨(Lib.cut (plL m ++ sgB m.kind :: vaL m) [sgB m.kind]).2.1.toArray⟩ : ByteArray) = _
    rw [cut_at _ _ _ (pl_sg m)]
  have d46 : ¬ isDg 46 := by unfold isDg; decide
  have c3 : numOf (cut1 ⟨(plL m).toArray⟩ ⟨#[46]⟩) = m.id ∧ numOf (cut2 ⟨(plL m).toArray⟩ ⟨#[46]⟩) = m.arg := by
    unfold cut1 cut2
    show numOf (⟨(Lib.cut (plL m) [46]).1.toArray⟩ : ByteArray) = _ ∧ numOf (⟨(Lib.cut (plL m) [46]).2.1.toArray⟩ : ByteArray) = _
    unfold plL
    split
    · rename_i ha
      rw [cut_not 46 _ (dg_not (dec_dg _) d46)]
      exact ⟨by rw [num_dec _ (by omega)]; omega, by rw [ha]; rfl⟩
    · rw [cut_at 46 _ _ (dg_not (dec_dg _) d46)]
      exact ⟨by rw [num_dec _ (by omega)]; omega, by rw [num_dec _ (by omega)]; omega⟩
  unfold readRes
  rw [c1, c2, c3.1, c3.2]
  have hn : (if starB ⟨(vaL m).toArray⟩ = true then (-1 : Int) else numOf ⟨(vaL m).toArray⟩) = m.n := by
    have nat : ∀ k : Nat, k ≤ 9223372036854775807 → (if starB ⟨(Lib.decDigits k).toArray⟩ = true then (-1 : Int) else numOf ⟨(Lib.decDigits k).toArray⟩) = (k : Int) := fun k hk => by
      have : starB ⟨(Lib.decDigits k).toArray⟩ = false := by
        unfold starB
        rw [ByteArray.toList_eq, beq_eq_false_iff_ne]
        intro e
        have e' : Lib.decDigits k = [42] := e
        have := dec_dg k 42 (by rw [e']; simp)
        unfold isDg at this
        exact absurd this (by decide)
      rw [this, if_neg (by simp), num_dec k hk]
    rcases h3 with ⟨e, e2⟩ | ⟨e, e2⟩ | ⟨e, e2⟩
    · have hv : vaL m = [] := by unfold vaL; rw [if_pos e]
      have hs : starB ⟨(([] : List UInt8)).toArray⟩ = false := by unfold starB; rw [ByteArray.toList_eq]; rfl
      rw [hv, hs, e2]; rfl
    · have hv : vaL m = Lib.decDigits m.n.toNat := by unfold vaL; rw [if_neg (by omega), if_neg (by omega)]
      rw [hv, nat _ (by omega)]; omega
    · rcases e2 with e2 | e2
      · have hv : vaL m = [42] := by unfold vaL; rw [if_neg (by omega), if_pos e2]
        have hs : starB ⟨([42] : List UInt8).toArray⟩ = true := by unfold starB; rw [ByteArray.toList_eq]; rfl
        rw [hv, hs, if_pos rfl, e2]
      · have hv : vaL m = Lib.decDigits m.n.toNat := by unfold vaL; rw [if_neg (by omega), if_neg (by omega)]
        rw [hv, nat _ (by omega)]; omega
  rw [hn]
end Go.Proofs.YtklfojmflmablaaGreatDoor
/- The reference: Decimal of any number, Words, Text. -/
namespace Go.Proofs.YtklfojmflmablaaGreatDoor
open Go Go.RowKit Go.Shelf

set_option maxRecDepth 100000 in
theorem decimal2_any (n : Nat) (hn : n ≤ 9223372036854775807) (w : World) : Calls Tryz.prog 159 #[.int .i64 (n : Int)] w fun e w' => e = .returned (.string (numTx (n : Int))) ∧ w = w' := by
  by_cases h10 : n < 10
  · exact decimal_any n (by omega) w
  obtain ⟨d, hd⟩ : ∃ d, n % 10 = d := ⟨_, rfl⟩
  have hd10 : d < 10 := by omega
  have hr : (n : Int).tmod 10 = (d : Int) := by rw [← hd]; rfl
  have hneg : ¬ ((d : Int) < 0) := by omega
  have hE := enc_digit d hd10
  have h48 : IntKind.i32.wrap (48 + (d : Int)) = 48 + (d : Int) := by rw [IntKind.wrap_i32]; omega
  have C := decimal_any (n / 10) (by omega)
  have hq : (n : Int).tdiv 10 = ((n / 10 : Nat) : Int) := rfl
  obtain ⟨q, hqq⟩ : ∃ q, n / 10 = q := ⟨_, rfl⟩
  have hne : ((q : Int) != 0) = true := by
    have : (q : Int) ≠ 0 := by omega
    simpa using this
  rw [numTx_more h10, hqq, hd]
  rw [hqq] at C hq
  have hsz : (numTx (q : Int)).size ≤ 1000 := by have := numTx_size20 (n := q) (by omega); omega
  have CD := Lib.hid C
  obtain ⟨T, hT⟩ : ∃ T, numTx (q : Int) = T := ⟨_, rfl⟩
  rw [hT] at CD hsz ⊢
  obtain ⟨D, hD⟩ : ∃ D : ByteArray, (⟨#[UInt8.ofNat (48 + d)]⟩ : ByteArray) = D := ⟨_, rfl⟩
  have hD1 : D.size = 1 := by rw [← hD]; rfl
  have hsum : T.size + D.size ≤ 2000 := by omega
  rw [hD] at hE ⊢
  obtain ⟨z, hz⟩ : ∃ z : Int, (n : Int) = z := ⟨_, rfl⟩
  rw [hz] at hr hq ⊢
  obtain ⟨y, hy⟩ : ∃ y : Int, (q : Int) = y := ⟨_, rfl⟩
  have hwr : IntKind.i64.wrap (q : Int) = (q : Int) := by rw [IntKind.wrap_i64]; omega
  rw [hy] at hq hne CD hwr
  have hne0 : y ≠ 0 := by simpa using hne
  have a1 : ∀ W, (Op.stringOp .add T D).run Tryz.prog W = .ok (.string (T ++ D)) W := fun W => run_string_add_sum W T _ (by omega)
  clear hd C hqq hT h10 hn hD hz hy
  go_enter Tryz.func159, Tryz.ntmps159
  go_wp2_with (go_at_call 159; refine (CD.out _).mono ?_; rintro e w2 ⟨rfl, rfl⟩)
  go_ret
  exact ⟨rfl, rfl⟩
theorem dec_itx (n : Int) (h0 : 0 ≤ n) (h : n ≤ 9223372036854775807) (w : World) : Calls Tryz.prog 159 #[.int .i64 n] w fun e w' => e = .returned (.string (itx n)) ∧ w = w' := by
  have := decimal2_any n.toNat (by omega) w
  rw [show ((n.toNat : Nat) : Int) = n by omega] at this
  rwa [itx_nat n h0]
theorem itx_size {n : Int} (h0 : 0 ≤ n) (h : n ≤ 9223372036854775807) : (itx n).size ≤ 20 := by
  rw [itx_nat n h0]
  have := dec_size n.toNat 19 (by omega)
  simpa [ByteArray.size] using this
end Go.Proofs.YtklfojmflmablaaGreatDoor
/- The reference: Words. -/
namespace Go.Proofs.YtklfojmflmablaaGreatDoor
open Go Go.RowKit Go.Shelf

theorem add_lit (W : World) (a b c : ByteArray) (h : a ++ b = c) (hs : a.size + b.size ≤ 140737488355328) : (Op.stringOp .add a b).run Tryz.prog W = .ok (.string c) W ∧ (Go.binOp .add 9 (.string a) (.string b)).run Tryz.prog W = .ok (.string c) W := by
  have a1 : (Op.stringOp .add a b).run Tryz.prog W = .ok (.string (a ++ b)) W := run_string_add_sum W _ _ (by omega)
  rw [h] at a1
  exact ⟨a1, by simp [Go.binOp, a1]⟩

set_option maxRecDepth 100000 in
set_option maxHeartbeats 1000000 in
theorem words_any (m : Mv) (h : okMv m) (w : World) : Calls Tryz.prog 112 #[mvV m] w fun e w' => e = .returned (.string ((placeTx itx m ++ ⟨#[sgB m.kind]⟩) ++ valTx itx m)) ∧ Below w.heap.size w w' := by
  obtain ⟨h1, h2, h3⟩ := okMv_facts h
  obtain ⟨_, _, b1, b2, b3⟩ := h
  have CI := Lib.hid (dec_itx m.id h1 b1)
  have sI := itx_size h1 b1
  have CA := Lib.hid (dec_itx m.arg h2 b2)
  have sA := itx_size h2 b2
  have CN : Hid (0 ≤ m.n → ∀ W, Calls Tryz.prog 159 #[.int .i64 m.n] W fun e w' => e = .returned (.string (itx m.n)) ∧ W = w') := Lib.hid fun hn W => dec_itx m.n hn b3 W
  have sN : 0 ≤ m.n → (itx m.n).size ≤ 20 := fun hn => itx_size hn b3
  have hb := (Below.refl _ w).alloc (Nat.le_refl _) (.cells #[.int .i64 m.id, .int .i64 m.arg, .int .u8 m.kind, .int .i64 m.n] 40)
  have HB := Lib.hid hb
  obtain ⟨w1, hw1⟩ : ∃ w1, w.alloc (.cells #[.int .i64 m.id, .int .i64 m.arg, .int .u8 m.kind, .int .i64 m.n] 40) = w1 := ⟨_, rfl⟩
  have x0 : BoxM w1 w.heap.size m := by rw [← hw1]; exact BoxM.new w m
  rw [hw1] at HB
  have c0 := x0.c0
  have c1 := x0.c1
  have c2 := x0.c2
  have c3 := x0.c3
  obtain ⟨id, arg, kind, n⟩ := m
  dsimp only at *
  obtain ⟨I, eI⟩ : ∃ I, itx id = I := ⟨_, rfl⟩
  obtain ⟨A, eA⟩ : ∃ A, itx arg = A := ⟨_, rfl⟩
  obtain ⟨N, eN⟩ : ∃ N, itx n = N := ⟨_, rfl⟩
  rw [eI] at CI sI
  rw [eA] at CA sA
  rw [eN] at CN sN
  have hpl : placeTx itx ⟨id, arg, kind, n⟩ = if arg = 0 then I else (I ++ ⟨#[46]⟩) ++ A := by unfold placeTx; dsimp only; rw [eI, eA]
  have hva : valTx itx ⟨id, arg, kind, n⟩ = if kind = 1 then ⟨#[]⟩ else if n = -1 then ⟨#[42]⟩ else N := by unfold valTx; dsimp only; rw [eN]
  rw [hpl, hva]
  unfold mvV
  clear hb x0 hpl hva eI eA eN
  have z46 : (⟨#[46]⟩ : ByteArray).size = 1 := rfl
  rcases Int.lt_or_eq_of_le h2 with ha | ha
  · have g1 : (0 : Int) < arg := ha
    rcases h3 with ⟨rfl, rfl⟩ | ⟨rfl, hn⟩ | ⟨rfl, rfl | hn⟩
    · obtain ⟨X, hX⟩ : ∃ X, (⟨#[46]⟩ : ByteArray) ++ A = X := ⟨_, rfl⟩
      have sX : X.size = 1 + A.size := by rw [← hX, ByteArray.size_append]; rfl
      obtain ⟨P, hP⟩ : ∃ P, I ++ X = P := ⟨_, rfl⟩
      have sP : P.size ≤ 50 := by rw [← hP, ByteArray.size_append]; omega
      have p1 := fun W => (add_lit W _ _ _ hX (by omega)).1
      have p2 := fun W => (add_lit W _ _ _ hX (by omega)).2
      have p3 := fun W => (add_lit W _ _ _ hP (by omega)).1
      have p4 := fun W => (add_lit W _ _ _ hP (by omega)).2
      have hPP : (I ++ (⟨#[46]⟩ : ByteArray)) ++ A = P := by rw [← hP, ← hX, ByteArray.append_assoc]
      have zs : (⟨#[63]⟩ : ByteArray).size = 1 := rfl
      obtain ⟨Q, hQ⟩ : ∃ Q, P ++ (⟨#[63]⟩ : ByteArray) = Q := ⟨_, rfl⟩
      have sQ : Q.size ≤ 60 := by rw [← hQ, ByteArray.size_append]; omega
      have q1 := fun W => (add_lit W _ _ _ hQ (by omega)).1
      have q2 := fun W => (add_lit W _ _ _ hQ (by omega)).2
      have hF : ((if arg = 0 then I else (I ++ ⟨#[46]⟩) ++ A) ++ ⟨#[sgB 1]⟩) ++ (if (1 : Int) = 1 then (⟨#[]⟩ : ByteArray) else if (0 : Int) = -1 then ⟨#[42]⟩ else N) = Q := by rw [if_neg (by omega), hPP]; show (P ++ (⟨#[63]⟩ : ByteArray)) ++ (⟨#[]⟩ : ByteArray) = Q; rw [hQ]; exact ByteArray.append_empty
      rw [hF]
      clear hF hQ hP hX hPP CN sN h1 h2
      go_enter Tryz.func112, Tryz.ntmps112
      go_wp2_with (go_at_call 159; first | ((with_reducible refine (CI.out _).mono ?_); rintro e w2 ⟨rfl, rfl⟩) | ((with_reducible refine (CA.out _).mono ?_); rintro e w3 ⟨rfl, rfl⟩))
      go_ret
      exact ⟨rfl, HB.out⟩
    · obtain ⟨X, hX⟩ : ∃ X, (⟨#[46]⟩ : ByteArray) ++ A = X := ⟨_, rfl⟩
      have sX : X.size = 1 + A.size := by rw [← hX, ByteArray.size_append]; rfl
      obtain ⟨P, hP⟩ : ∃ P, I ++ X = P := ⟨_, rfl⟩
      have sP : P.size ≤ 50 := by rw [← hP, ByteArray.size_append]; omega
      have p1 := fun W => (add_lit W _ _ _ hX (by omega)).1
      have p2 := fun W => (add_lit W _ _ _ hX (by omega)).2
      have p3 := fun W => (add_lit W _ _ _ hP (by omega)).1
      have p4 := fun W => (add_lit W _ _ _ hP (by omega)).2
      have hPP : (I ++ (⟨#[46]⟩ : ByteArray)) ++ A = P := by rw [← hP, ← hX, ByteArray.append_assoc]
      have zs : (⟨#[61]⟩ : ByteArray).size = 1 := rfl
      obtain ⟨Q, hQ⟩ : ∃ Q, P ++ (⟨#[61]⟩ : ByteArray) = Q := ⟨_, rfl⟩
      have sQ : Q.size ≤ 60 := by rw [← hQ, ByteArray.size_append]; omega
      have q1 := fun W => (add_lit W _ _ _ hQ (by omega)).1
      have q2 := fun W => (add_lit W _ _ _ hQ (by omega)).2
      have CN2 := Lib.hid (CN.out (by omega))
      have sN2 := sN (by omega)
      obtain ⟨R, hR⟩ : ∃ R, Q ++ N = R := ⟨_, rfl⟩
      have r1 := fun W => (add_lit W _ _ _ hR (by omega)).1
      have r2 := fun W => (add_lit W _ _ _ hR (by omega)).2
      have hF : ((if arg = 0 then I else (I ++ ⟨#[46]⟩) ++ A) ++ ⟨#[sgB 2]⟩) ++ (if (2 : Int) = 1 then (⟨#[]⟩ : ByteArray) else if (n : Int) = -1 then ⟨#[42]⟩ else N) = R := by rw [if_neg (by omega), hPP]; rw [if_neg (by omega), if_neg (by omega)]; show (P ++ (⟨#[61]⟩ : ByteArray)) ++ N = R; rw [hQ, hR]
      rw [hF]
      clear hF hQ hP hX hPP hR CN sN h1 h2
      go_enter Tryz.func112, Tryz.ntmps112
      go_wp2_with (go_at_call 159; first | ((with_reducible refine (CI.out _).mono ?_); rintro e w2 ⟨rfl, rfl⟩) | ((with_reducible refine (CA.out _).mono ?_); rintro e w3 ⟨rfl, rfl⟩) | ((with_reducible refine (CN2.out _).mono ?_); rintro e w4 ⟨rfl, rfl⟩))
      go_ret
      exact ⟨rfl, HB.out⟩
    · obtain ⟨X, hX⟩ : ∃ X, (⟨#[46]⟩ : ByteArray) ++ A = X := ⟨_, rfl⟩
      have sX : X.size = 1 + A.size := by rw [← hX, ByteArray.size_append]; rfl
      obtain ⟨P, hP⟩ : ∃ P, I ++ X = P := ⟨_, rfl⟩
      have sP : P.size ≤ 50 := by rw [← hP, ByteArray.size_append]; omega
      have p1 := fun W => (add_lit W _ _ _ hX (by omega)).1
      have p2 := fun W => (add_lit W _ _ _ hX (by omega)).2
      have p3 := fun W => (add_lit W _ _ _ hP (by omega)).1
      have p4 := fun W => (add_lit W _ _ _ hP (by omega)).2
      have hPP : (I ++ (⟨#[46]⟩ : ByteArray)) ++ A = P := by rw [← hP, ← hX, ByteArray.append_assoc]
      have zs : (⟨#[33, 42]⟩ : ByteArray).size = 2 := rfl
      obtain ⟨Q, hQ⟩ : ∃ Q, P ++ (⟨#[33, 42]⟩ : ByteArray) = Q := ⟨_, rfl⟩
      have sQ : Q.size ≤ 60 := by rw [← hQ, ByteArray.size_append]; omega
      have q1 := fun W => (add_lit W _ _ _ hQ (by omega)).1
      have q2 := fun W => (add_lit W _ _ _ hQ (by omega)).2
      have hF : ((if arg = 0 then I else (I ++ ⟨#[46]⟩) ++ A) ++ ⟨#[sgB 3]⟩) ++ (if (3 : Int) = 1 then (⟨#[]⟩ : ByteArray) else if (-1 : Int) = -1 then ⟨#[42]⟩ else N) = Q := by rw [if_neg (by omega), hPP]; rw [if_neg (by omega), if_pos rfl]; show (P ++ (⟨#[33]⟩ : ByteArray)) ++ (⟨#[42]⟩ : ByteArray) = Q; rw [ByteArray.append_assoc, ← hQ]; rfl
      rw [hF]
      clear hF hQ hP hX hPP CN sN h1 h2
      go_enter Tryz.func112, Tryz.ntmps112
      go_wp2_with (go_at_call 159; first | ((with_reducible refine (CI.out _).mono ?_); rintro e w2 ⟨rfl, rfl⟩) | ((with_reducible refine (CA.out _).mono ?_); rintro e w3 ⟨rfl, rfl⟩))
      go_ret
      exact ⟨rfl, HB.out⟩
    · obtain ⟨X, hX⟩ : ∃ X, (⟨#[46]⟩ : ByteArray) ++ A = X := ⟨_, rfl⟩
      have sX : X.size = 1 + A.size := by rw [← hX, ByteArray.size_append]; rfl
      obtain ⟨P, hP⟩ : ∃ P, I ++ X = P := ⟨_, rfl⟩
      have sP : P.size ≤ 50 := by rw [← hP, ByteArray.size_append]; omega
      have p1 := fun W => (add_lit W _ _ _ hX (by omega)).1
      have p2 := fun W => (add_lit W _ _ _ hX (by omega)).2
      have p3 := fun W => (add_lit W _ _ _ hP (by omega)).1
      have p4 := fun W => (add_lit W _ _ _ hP (by omega)).2
      have hPP : (I ++ (⟨#[46]⟩ : ByteArray)) ++ A = P := by rw [← hP, ← hX, ByteArray.append_assoc]
      have zs : (⟨#[33]⟩ : ByteArray).size = 1 := rfl
      obtain ⟨Q, hQ⟩ : ∃ Q, P ++ (⟨#[33]⟩ : ByteArray) = Q := ⟨_, rfl⟩
      have sQ : Q.size ≤ 60 := by rw [← hQ, ByteArray.size_append]; omega
      have q1 := fun W => (add_lit W _ _ _ hQ (by omega)).1
      have q2 := fun W => (add_lit W _ _ _ hQ (by omega)).2
      have CN2 := Lib.hid (CN.out (by omega))
      have sN2 := sN (by omega)
      obtain ⟨R, hR⟩ : ∃ R, Q ++ N = R := ⟨_, rfl⟩
      have r1 := fun W => (add_lit W _ _ _ hR (by omega)).1
      have r2 := fun W => (add_lit W _ _ _ hR (by omega)).2
      have hF : ((if arg = 0 then I else (I ++ ⟨#[46]⟩) ++ A) ++ ⟨#[sgB 3]⟩) ++ (if (3 : Int) = 1 then (⟨#[]⟩ : ByteArray) else if (n : Int) = -1 then ⟨#[42]⟩ else N) = R := by rw [if_neg (by omega), hPP]; rw [if_neg (by omega), if_neg (by omega)]; show (P ++ (⟨#[33]⟩ : ByteArray)) ++ N = R; rw [hQ, hR]
      rw [hF]
      clear hF hQ hP hX hPP hR CN sN h1 h2
      go_enter Tryz.func112, Tryz.ntmps112
      go_wp2_with (go_at_call 159; first | ((with_reducible refine (CI.out _).mono ?_); rintro e w2 ⟨rfl, rfl⟩) | ((with_reducible refine (CA.out _).mono ?_); rintro e w3 ⟨rfl, rfl⟩) | ((with_reducible refine (CN2.out _).mono ?_); rintro e w4 ⟨rfl, rfl⟩))
      go_ret
      exact ⟨rfl, HB.out⟩
  · obtain rfl : arg = 0 := ha.symm
    rcases h3 with ⟨rfl, rfl⟩ | ⟨rfl, hn⟩ | ⟨rfl, rfl | hn⟩
    · have g0 : ¬ ((0 : Int) < 0) := by omega
      obtain ⟨P, hP⟩ : ∃ P, I = P := ⟨_, rfl⟩
      have sP : P.size ≤ 50 := by rw [← hP]; omega
      rw [hP] at CI
      have zs : (⟨#[63]⟩ : ByteArray).size = 1 := rfl
      obtain ⟨Q, hQ⟩ : ∃ Q, P ++ (⟨#[63]⟩ : ByteArray) = Q := ⟨_, rfl⟩
      have sQ : Q.size ≤ 60 := by rw [← hQ, ByteArray.size_append]; omega
      have q1 := fun W => (add_lit W _ _ _ hQ (by omega)).1
      have q2 := fun W => (add_lit W _ _ _ hQ (by omega)).2
      have hF : ((if (0 : Int) = 0 then I else (I ++ ⟨#[46]⟩) ++ A) ++ ⟨#[sgB 1]⟩) ++ (if (1 : Int) = 1 then (⟨#[]⟩ : ByteArray) else if (0 : Int) = -1 then ⟨#[42]⟩ else N) = Q := by rw [if_pos rfl, hP]; show (P ++ (⟨#[63]⟩ : ByteArray)) ++ (⟨#[]⟩ : ByteArray) = Q; rw [hQ]; exact ByteArray.append_empty
      rw [hF]
      clear hF hQ hP CN sN h1 h2
      go_enter Tryz.func112, Tryz.ntmps112
      go_wp2_with (go_at_call 159; first | ((with_reducible refine (CI.out _).mono ?_); rintro e w2 ⟨rfl, rfl⟩))
      go_ret
      exact ⟨rfl, HB.out⟩
    · have g0 : ¬ ((0 : Int) < 0) := by omega
      obtain ⟨P, hP⟩ : ∃ P, I = P := ⟨_, rfl⟩
      have sP : P.size ≤ 50 := by rw [← hP]; omega
      rw [hP] at CI
      have zs : (⟨#[61]⟩ : ByteArray).size = 1 := rfl
      obtain ⟨Q, hQ⟩ : ∃ Q, P ++ (⟨#[61]⟩ : ByteArray) = Q := ⟨_, rfl⟩
      have sQ : Q.size ≤ 60 := by rw [← hQ, ByteArray.size_append]; omega
      have q1 := fun W => (add_lit W _ _ _ hQ (by omega)).1
      have q2 := fun W => (add_lit W _ _ _ hQ (by omega)).2
      have CN2 := Lib.hid (CN.out (by omega))
      have sN2 := sN (by omega)
      obtain ⟨R, hR⟩ : ∃ R, Q ++ N = R := ⟨_, rfl⟩
      have r1 := fun W => (add_lit W _ _ _ hR (by omega)).1
      have r2 := fun W => (add_lit W _ _ _ hR (by omega)).2
      have hF : ((if (0 : Int) = 0 then I else (I ++ ⟨#[46]⟩) ++ A) ++ ⟨#[sgB 2]⟩) ++ (if (2 : Int) = 1 then (⟨#[]⟩ : ByteArray) else if (n : Int) = -1 then ⟨#[42]⟩ else N) = R := by rw [if_pos rfl, hP]; rw [if_neg (by omega), if_neg (by omega)]; show (P ++ (⟨#[61]⟩ : ByteArray)) ++ N = R; rw [hQ, hR]
      rw [hF]
      clear hF hQ hP hR CN sN h1 h2
      go_enter Tryz.func112, Tryz.ntmps112
      go_wp2_with (go_at_call 159; first | ((with_reducible refine (CI.out _).mono ?_); rintro e w2 ⟨rfl, rfl⟩) | ((with_reducible refine (CN2.out _).mono ?_); rintro e w4 ⟨rfl, rfl⟩))
      go_ret
      exact ⟨rfl, HB.out⟩
    · have g0 : ¬ ((0 : Int) < 0) := by omega
      obtain ⟨P, hP⟩ : ∃ P, I = P := ⟨_, rfl⟩
      have sP : P.size ≤ 50 := by rw [← hP]; omega
      rw [hP] at CI
      have zs : (⟨#[33, 42]⟩ : ByteArray).size = 2 := rfl
      obtain ⟨Q, hQ⟩ : ∃ Q, P ++ (⟨#[33, 42]⟩ : ByteArray) = Q := ⟨_, rfl⟩
      have sQ : Q.size ≤ 60 := by rw [← hQ, ByteArray.size_append]; omega
      have q1 := fun W => (add_lit W _ _ _ hQ (by omega)).1
      have q2 := fun W => (add_lit W _ _ _ hQ (by omega)).2
      have hF : ((if (0 : Int) = 0 then I else (I ++ ⟨#[46]⟩) ++ A) ++ ⟨#[sgB 3]⟩) ++ (if (3 : Int) = 1 then (⟨#[]⟩ : ByteArray) else if (-1 : Int) = -1 then ⟨#[42]⟩ else N) = Q := by rw [if_pos rfl, hP]; rw [if_neg (by omega), if_pos rfl]; show (P ++ (⟨#[33]⟩ : ByteArray)) ++ (⟨#[42]⟩ : ByteArray) = Q; rw [ByteArray.append_assoc, ← hQ]; rfl
      rw [hF]
      clear hF hQ hP CN sN h1 h2
      go_enter Tryz.func112, Tryz.ntmps112
      go_wp2_with (go_at_call 159; first | ((with_reducible refine (CI.out _).mono ?_); rintro e w2 ⟨rfl, rfl⟩))
      go_ret
      exact ⟨rfl, HB.out⟩
    · have g0 : ¬ ((0 : Int) < 0) := by omega
      obtain ⟨P, hP⟩ : ∃ P, I = P := ⟨_, rfl⟩
      have sP : P.size ≤ 50 := by rw [← hP]; omega
      rw [hP] at CI
      have zs : (⟨#[33]⟩ : ByteArray).size = 1 := rfl
      obtain ⟨Q, hQ⟩ : ∃ Q, P ++ (⟨#[33]⟩ : ByteArray) = Q := ⟨_, rfl⟩
      have sQ : Q.size ≤ 60 := by rw [← hQ, ByteArray.size_append]; omega
      have q1 := fun W => (add_lit W _ _ _ hQ (by omega)).1
      have q2 := fun W => (add_lit W _ _ _ hQ (by omega)).2
      have CN2 := Lib.hid (CN.out (by omega))
      have sN2 := sN (by omega)
      obtain ⟨R, hR⟩ : ∃ R, Q ++ N = R := ⟨_, rfl⟩
      have r1 := fun W => (add_lit W _ _ _ hR (by omega)).1
      have r2 := fun W => (add_lit W _ _ _ hR (by omega)).2
      have hF : ((if (0 : Int) = 0 then I else (I ++ ⟨#[46]⟩) ++ A) ++ ⟨#[sgB 3]⟩) ++ (if (3 : Int) = 1 then (⟨#[]⟩ : ByteArray) else if (n : Int) = -1 then ⟨#[42]⟩ else N) = R := by rw [if_pos rfl, hP]; rw [if_neg (by omega), if_neg (by omega)]; show (P ++ (⟨#[33]⟩ : ByteArray)) ++ N = R; rw [hQ, hR]
      rw [hF]
      clear hF hQ hP hR CN sN h1 h2
      go_enter Tryz.func112, Tryz.ntmps112
      go_wp2_with (go_at_call 159; first | ((with_reducible refine (CI.out _).mono ?_); rintro e w2 ⟨rfl, rfl⟩) | ((with_reducible refine (CN2.out _).mono ?_); rintro e w4 ⟨rfl, rfl⟩))
      go_ret
      exact ⟨rfl, HB.out⟩
end Go.Proofs.YtklfojmflmablaaGreatDoor
/- The reference: Text. -/
namespace Go.Proofs.YtklfojmflmablaaGreatDoor
open Go Go.RowKit Go.Shelf

theorem kinds (k : Int) : k = 1 ∨ k = 2 ∨ k = 3 ∨ (k ≠ 1 ∧ k ≠ 2 ∧ k ≠ 3) := by omega
theorem text_bad {m : Mv} (h : hasTx m = false ∨ signOf m.kind = none) : textRes itx m = (⟨#[]⟩, 4) := by
  unfold textRes
  cases hs : signOf m.kind with
  | none => rfl
  | some s =>
    rcases h with h | h
    · simp only [h]; rfl
    · rw [hs] at h; cases h
theorem text_good {m : Mv} (h : okMv m) : textRes itx m = ((placeTx itx m ++ ⟨#[sgB m.kind]⟩) ++ valTx itx m, 0) := by
  unfold textRes
  have hs : signOf m.kind = some ⟨#[sgB m.kind]⟩ := by
    unfold signOf sgB
    rcases h.2.1 with e | e | e <;> rw [e] <;> rfl
  rw [hs]
  simp only [h.1, if_true]
set_option maxRecDepth 100000 in
set_option maxHeartbeats 1000000 in
theorem refText_any (m : Mv) (w : World) (b1 : m.id ≤ 9223372036854775807) (b2 : m.arg ≤ 9223372036854775807) (b3 : m.n ≤ 9223372036854775807) : Calls Tryz.prog 44 #[mvV m] w fun e w' => e = .returned (.tuple #[.string (textRes itx m).1, .int .i64 (textRes itx m).2]) ∧ Below w.heap.size w w' := by
  have HB := Lib.hid ((Below.refl _ w).alloc (Nat.le_refl _) (.cells #[.int .i64 m.id, .int .i64 m.arg, .int .u8 m.kind, .int .i64 m.n] 40))
  have CW : Hid (okMv m → ∀ W, Calls Tryz.prog 112 #[mvV m] W fun e w' => e = .returned (.string (textRes itx m).1) ∧ Below W.heap.size W w') := Lib.hid fun h W => by rw [text_good h]; exact words_any m h W
  have HBAD : Hid ((hasTx m = false ∨ signOf m.kind = none) → textRes itx m = (⟨#[]⟩, 4)) := Lib.hid text_bad
  have HGOOD : Hid (okMv m → (textRes itx m).2 = 0) := Lib.hid fun h => by rw [text_good h]
  obtain ⟨w1, hw1⟩ : ∃ w1, w.alloc (.cells #[.int .i64 m.id, .int .i64 m.arg, .int .u8 m.kind, .int .i64 m.n] 40) = w1 := ⟨_, rfl⟩
  have x0 : BoxM w1 w.heap.size m := by rw [← hw1]; exact BoxM.new w m
  rw [hw1] at HB
  have c0 := x0.c0
  have c1 := x0.c1
  have c2 := x0.c2
  have c3 := x0.c3
  obtain ⟨id, arg, kind, n⟩ := m
  unfold mvV at CW ⊢
  dsimp only at *
  obtain ⟨R, hR⟩ : ∃ R, textRes itx ⟨id, arg, kind, n⟩ = R := ⟨_, rfl⟩
  rw [hR] at CW HBAD HGOOD ⊢
  clear x0 hR
  by_cases hid : 0 ≤ id
  · by_cases harg : 0 ≤ arg
    · have i1 : 0 ≤ id := hid
      rcases kinds kind with rfl | rfl | rfl | ⟨hk1, hk2, hk3⟩
      · by_cases hn : n = 0
        · have hok : okMv ⟨id, arg, 1, n⟩ := ⟨by unfold hasTx; rw [if_neg (by dsimp only; omega), if_pos rfl]; simpa using hn, by simp [*], b1, b2, b3⟩
          have CW2 := Lib.hid (CW.out hok)
          have e0 := HGOOD.out hok
          obtain ⟨S, es⟩ := R
          dsimp only at e0 CW2
          subst e0
          clear CW HBAD HGOOD hok b1 b2 b3
          subst hn
          go_enter Tryz.func44, Tryz.ntmps44
          go_wp2_with (go_at_call 112; refine (CW2.out _).mono ?_; rintro e w2 ⟨rfl, hb2⟩)
          refine bodyPost_ret (results_tmp2 rfl _ _ _) rfl ?_
          exact ⟨rfl, HB.out.trans (hb2.mono HB.out.size)⟩
        · have hr := HBAD.out (.inl (by unfold hasTx; rw [if_neg (by dsimp only; omega), if_pos rfl]; simpa using hn))
          subst hr
          clear CW HBAD HGOOD b1 b2 b3
          have hn1 : (n == 0) = false := by simpa using hn
          go_enter Tryz.func44, Tryz.ntmps44
          go_wp2_with fail
          refine bodyPost_ret (results_tmp2 rfl _ _ _) rfl ?_
          exact ⟨rfl, HB.out⟩
      · by_cases hn : 0 ≤ n
        · have hok : okMv ⟨id, arg, 2, n⟩ := ⟨by unfold hasTx; rw [if_neg (by dsimp only; omega), if_neg (by simp), if_neg (by simp)]; simpa using hn, by simp [*], b1, b2, b3⟩
          have CW2 := Lib.hid (CW.out hok)
          have e0 := HGOOD.out hok
          obtain ⟨S, es⟩ := R
          dsimp only at e0 CW2
          subst e0
          clear CW HBAD HGOOD hok b1 b2 b3
          go_enter Tryz.func44, Tryz.ntmps44
          go_wp2_with (go_at_call 112; refine (CW2.out _).mono ?_; rintro e w2 ⟨rfl, hb2⟩)
          refine bodyPost_ret (results_tmp2 rfl _ _ _) rfl ?_
          exact ⟨rfl, HB.out.trans (hb2.mono HB.out.size)⟩
        · have hr := HBAD.out (.inl (by unfold hasTx; rw [if_neg (by dsimp only; omega), if_neg (by simp), if_neg (by simp)]; simp; omega))
          subst hr
          clear CW HBAD HGOOD b1 b2 b3
          have hn1 : n < 0 := by omega
          go_enter Tryz.func44, Tryz.ntmps44
          go_wp2_with fail
          refine bodyPost_ret (results_tmp2 rfl _ _ _) rfl ?_
          exact ⟨rfl, HB.out⟩
      · by_cases hn : -1 ≤ n
        · have hok : okMv ⟨id, arg, 3, n⟩ := ⟨by unfold hasTx; rw [if_neg (by dsimp only; omega), if_neg (by simp)]; split; rfl; simp; dsimp only at *; simp at *; omega, by simp [*], b1, b2, b3⟩
          have CW2 := Lib.hid (CW.out hok)
          have e0 := HGOOD.out hok
          obtain ⟨S, es⟩ := R
          dsimp only at e0 CW2
          subst e0
          clear CW HBAD HGOOD hok b1 b2 b3
          go_enter Tryz.func44, Tryz.ntmps44
          go_wp2_with (go_at_call 112; refine (CW2.out _).mono ?_; rintro e w2 ⟨rfl, hb2⟩)
          refine bodyPost_ret (results_tmp2 rfl _ _ _) rfl ?_
          exact ⟨rfl, HB.out.trans (hb2.mono HB.out.size)⟩
        · have hr := HBAD.out (.inl (by unfold hasTx; rw [if_neg (by dsimp only; omega), if_neg (by simp), if_neg (by dsimp only; omega)]; simp; omega))
          subst hr
          clear CW HBAD HGOOD b1 b2 b3
          have hn1 : n < -1 := by omega
          go_enter Tryz.func44, Tryz.ntmps44
          go_wp2_with fail
          refine bodyPost_ret (results_tmp2 rfl _ _ _) rfl ?_
          exact ⟨rfl, HB.out⟩
      · have hr := HBAD.out (.inr (by unfold signOf; rw [if_neg hk1, if_neg hk2, if_neg hk3]))
        subst hr
        clear CW HBAD HGOOD b1 b2 b3
        have k1 : (kind == 1) = false := by simpa using hk1
        have k2 : (kind == 2) = false := by simpa using hk2
        have k3 : (kind == 3) = false := by simpa using hk3
        go_enter Tryz.func44, Tryz.ntmps44
        go_wp2_with fail
        refine bodyPost_ret (results_tmp2 rfl _ _ _) rfl ?_
        exact ⟨rfl, HB.out⟩
    · have i2 : arg < 0 := by omega
      rcases kinds kind with rfl | rfl | rfl | ⟨hk1, hk2, hk3⟩
      · have hr := HBAD.out (.inl (by unfold hasTx; rw [if_pos (.inr (by dsimp only; omega))]))
        subst hr
        clear CW HBAD HGOOD b1 b2 b3
        go_enter Tryz.func44, Tryz.ntmps44
        go_wp2_with fail
        refine bodyPost_ret (results_tmp2 rfl _ _ _) rfl ?_
        exact ⟨rfl, HB.out⟩
      · have hr := HBAD.out (.inl (by unfold hasTx; rw [if_pos (.inr (by dsimp only; omega))]))
        subst hr
        clear CW HBAD HGOOD b1 b2 b3
        go_enter Tryz.func44, Tryz.ntmps44
        go_wp2_with fail
        refine bodyPost_ret (results_tmp2 rfl _ _ _) rfl ?_
        exact ⟨rfl, HB.out⟩
      · have hr := HBAD.out (.inl (by unfold hasTx; rw [if_pos (.inr (by dsimp only; omega))]))
        subst hr
        clear CW HBAD HGOOD b1 b2 b3
        go_enter Tryz.func44, Tryz.ntmps44
        go_wp2_with fail
        refine bodyPost_ret (results_tmp2 rfl _ _ _) rfl ?_
        exact ⟨rfl, HB.out⟩
      · have hr := HBAD.out (.inr (by unfold signOf; rw [if_neg hk1, if_neg hk2, if_neg hk3]))
        subst hr
        clear CW HBAD HGOOD b1 b2 b3
        have k1 : (kind == 1) = false := by simpa using hk1
        have k2 : (kind == 2) = false := by simpa using hk2
        have k3 : (kind == 3) = false := by simpa using hk3
        go_enter Tryz.func44, Tryz.ntmps44
        go_wp2_with fail
        refine bodyPost_ret (results_tmp2 rfl _ _ _) rfl ?_
        exact ⟨rfl, HB.out⟩
  · have i1 : id < 0 := by omega
    rcases kinds kind with rfl | rfl | rfl | ⟨hk1, hk2, hk3⟩
    · have hr := HBAD.out (.inl (by unfold hasTx; rw [if_pos (.inl (by dsimp only; omega))]))
      subst hr
      clear CW HBAD HGOOD b1 b2 b3
      go_enter Tryz.func44, Tryz.ntmps44
      go_wp2_with fail
      refine bodyPost_ret (results_tmp2 rfl _ _ _) rfl ?_
      exact ⟨rfl, HB.out⟩
    · have hr := HBAD.out (.inl (by unfold hasTx; rw [if_pos (.inl (by dsimp only; omega))]))
      subst hr
      clear CW HBAD HGOOD b1 b2 b3
      go_enter Tryz.func44, Tryz.ntmps44
      go_wp2_with fail
      refine bodyPost_ret (results_tmp2 rfl _ _ _) rfl ?_
      exact ⟨rfl, HB.out⟩
    · have hr := HBAD.out (.inl (by unfold hasTx; rw [if_pos (.inl (by dsimp only; omega))]))
      subst hr
      clear CW HBAD HGOOD b1 b2 b3
      go_enter Tryz.func44, Tryz.ntmps44
      go_wp2_with fail
      refine bodyPost_ret (results_tmp2 rfl _ _ _) rfl ?_
      exact ⟨rfl, HB.out⟩
    · have hr := HBAD.out (.inr (by unfold signOf; rw [if_neg hk1, if_neg hk2, if_neg hk3]))
      subst hr
      clear CW HBAD HGOOD b1 b2 b3
      have k1 : (kind == 1) = false := by simpa using hk1
      have k2 : (kind == 2) = false := by simpa using hk2
      have k3 : (kind == 3) = false := by simpa using hk3
      go_enter Tryz.func44, Tryz.ntmps44
      go_wp2_with fail
      refine bodyPost_ret (results_tmp2 rfl _ _ _) rfl ?_
      exact ⟨rfl, HB.out⟩
end Go.Proofs.YtklfojmflmablaaGreatDoor
/- The reference: Digits. -/
namespace Go.Proofs.YtklfojmflmablaaGreatDoor
open Go Go.RowKit Go.Shelf

/-- The number with which a text begins, and how many digits it has: nineteen of them at most. -/
def digs : Nat → Int → List UInt8 → Int × Nat
  | k, n, [] => (n, k)
  | k, n, c :: r => if k < 19 ∧ 48 ≤ c.toNat ∧ c.toNat ≤ 57 then digs (k + 1) (wrap64 (wrap64 (10 * n) + ((c.toNat : Int) - 48))) r else (n, k)

set_option maxRecDepth 100000 in
set_option maxHeartbeats 1000000 in
theorem digits_any (s : ByteArray) (w : World) (hs : s.size ≤ 1000) : Calls Tryz.prog 113 #[.string s] w fun e w' => e = .returned (.tuple #[.int .i64 (digs 0 0 s.data.toList).1, .int .i64 ((digs 0 0 s.data.toList).2 : Int)]) ∧ w = w' := by
  obtain ⟨L, hL⟩ : ∃ L, s.data.toList = L := ⟨_, rfl⟩
  have HLL := Lib.hid hL
  have hlen : L.length = s.size := by rw [← hL]; exact Array.length_toList
  have HLN := Lib.hid hlen
  rw [hL]
  clear hL hlen
  go_enter Tryz.func113, Tryz.ntmps113
  go_wp2
  go_loopw [4, 5] (fun z m wr => ∃ (k : Nat) (x : Int), m = .int .i64 (k : Int) ∧ z = .int .i64 x ∧ k ≤ s.size ∧ Hid (digs 0 0 L = digs k x (L.drop k)) ∧ w = wr) (fun _ m _ => s.size + 1 - (intOf m).toNat)
  case atStart => exact ⟨0, 0, rfl, rfl, Nat.zero_le _, Lib.hid rfl, rfl⟩
  case round =>
    obtain ⟨k, x, rfl, rfl, hk, HD, rfl⟩ := hrel
    by_cases hlt : k < s.size
    · have hle : (k : Int) < (s.size : Int) := by omega
      have k0 : (0 : Int) ≤ (k : Int) := by omega
      obtain ⟨c, hc⟩ : ∃ c, s[k]'hlt = c := ⟨_, rfl⟩
      have hdrop : L.drop k = c :: L.drop (k + 1) := by
        rw [List.drop_eq_getElem_cons (by rw [HLN.out]; exact hlt), ← hc]
        congr 1
        have := HLL.out
        subst this
        rfl
      have HDR : Hid (digs 0 0 L = if k < 19 ∧ 48 ≤ c.toNat ∧ c.toNat ≤ 57 then digs (k + 1) (wrap64 (wrap64 (10 * x) + ((c.toNat : Int) - 48))) (L.drop (k + 1)) else (x, k)) := Lib.hid (by rw [HD.out, hdrop]; rfl)
      clear hdrop HD
      by_cases h19 : k < 19
      · have hl19 : (k : Int) < 19 := by omega
        by_cases h48 : 48 ≤ c.toNat
        · have i48 : (48 : Int) ≤ (c.toNat : Int) := by omega
          by_cases h57 : c.toNat ≤ 57
          · have i57 : (c.toNat : Int) ≤ 57 := by omega
            have HN : Hid (digs 0 0 L = digs (k + 1) (wrap64 (wrap64 (10 * x) + ((c.toNat : Int) - 48))) (L.drop (k + 1))) := Lib.hid (by rw [HDR.out, if_pos ⟨h19, h48, h57⟩])
            clear HDR
            go_wp2
            exact ⟨⟨k + 1, _, by simp, rfl, by omega, HN, by simp⟩, by simp [intOf]; omega⟩
          · have i57 : 57 < (c.toNat : Int) := by omega
            have HN : Hid (digs 0 0 L = (x, k)) := Lib.hid (by rw [HDR.out, if_neg (by omega)])
            clear HDR
            go_wp2
            refine bodyPost_ret (results_tmp2 rfl _ _ _) rfl ?_
            rw [HN.out]
            exact ⟨rfl, rfl⟩
        · have i48 : (c.toNat : Int) < 48 := by omega
          have HN : Hid (digs 0 0 L = (x, k)) := Lib.hid (by rw [HDR.out, if_neg (by omega)])
          clear HDR
          go_wp2
          refine bodyPost_ret (results_tmp2 rfl _ _ _) rfl ?_
          rw [HN.out]
          exact ⟨rfl, rfl⟩
      · have hl19 : ¬ ((k : Int) < 19) := by omega
        have HN : Hid (digs 0 0 L = (x, k)) := Lib.hid (by rw [HDR.out, if_neg (by omega)])
        clear HDR
        go_wp2
        refine bodyPost_ret (results_tmp2 rfl _ _ _) rfl ?_
        rw [HN.out]
        exact ⟨rfl, rfl⟩
    · obtain rfl : k = s.size := by omega
      have hnl : ¬ ((s.size : Int) < (s.size : Int)) := by omega
      have HN : Hid (digs 0 0 L = (x, s.size)) := Lib.hid (by rw [HD.out, List.drop_of_length_le (by rw [HLN.out]; exact Nat.le_refl _)]; rfl)
      clear HD
      go_wp2
      refine bodyPost_ret (results_tmp2 rfl _ _ _) rfl ?_
      rw [HN.out]
      exact ⟨rfl, rfl⟩
end Go.Proofs.YtklfojmflmablaaGreatDoor
