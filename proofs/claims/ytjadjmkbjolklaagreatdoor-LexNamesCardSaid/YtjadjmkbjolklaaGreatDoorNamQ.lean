/- The contracts at the literals of LexNames. -/
import Derived.Test.YtjadjmkbjolklaaGreatDoorNamP
import Derived.Test.YtjadjmkbjolklaaGreatDoorRefE
namespace Go.Proofs.YtjadjmkbjolklaaGreatDoor
open Go Go.RowKit

theorem nq_t1 (w : World) (h : NumVars w) : Calls Tryz.prog 4 #[.string ⟨#[100, 101, 102, 32, 65, 98]⟩] w fun e w' => ∃ v, e = .returned (.tuple #[v, .int .i64 4, .int .i64 4]) ∧ Below w.heap.size w w' := by
  have := tokens_any ⟨#[100, 101, 102, 32, 65, 98]⟩ w (by decide) h
  rw [nm_t1] at this
  exact this.mono (by rintro e w' ⟨v, rfl, hb, _⟩; exact ⟨v, rfl, hb⟩)

theorem nq_t2 (w : World) (h : NumVars w) : Calls Tryz.prog 4 #[.string ⟨#[97, 32, 48, 49]⟩] w fun e w' => ∃ v, e = .returned (.tuple #[v, .int .i64 2, .int .i64 4]) ∧ Below w.heap.size w w' := by
  have := tokens_any ⟨#[97, 32, 48, 49]⟩ w (by decide) h
  rw [nm_t2] at this
  exact this.mono (by rintro e w' ⟨v, rfl, hb, _⟩; exact ⟨v, rfl, hb⟩)

theorem nq_t3 (w : World) (h : NumVars w) : Calls Tryz.prog 4 #[.string ⟨#[49, 48, 48, 48, 48, 48, 49]⟩] w fun e w' => ∃ v, e = .returned (.tuple #[v, .int .i64 0, .int .i64 3]) ∧ Below w.heap.size w w' := by
  have := tokens_any ⟨#[49, 48, 48, 48, 48, 48, 49]⟩ w (by decide) h
  rw [nm_t3] at this
  exact this.mono (by rintro e w' ⟨v, rfl, hb, _⟩; exact ⟨v, rfl, hb⟩)

theorem nq_s (w : World) : Calls Tryz.prog 5 #[.string ⟨#[97, 10, 98, 99]⟩, .int .i64 3] w fun e w' => e = .returned (.tuple #[.agg #[.int .i64 2, .int .i64 2], .int .i64 0]) ∧ Below w.heap.size w w' := by
  have := spot_any ⟨#[97, 10, 98, 99]⟩ 3 w (by decide)
  rw [nm_s] at this
  exact this

theorem nq_a1 (w : World) : Calls Tryz.prog 6 #[.string ⟨#[97, 10, 98, 99]⟩, .agg #[.int .i64 1, .int .i64 2]] w fun e w' => e = .returned (.tuple #[.int .i64 1, .int .i64 0]) ∧ Below w.heap.size w w' :=
  (at_any ⟨#[97, 10, 98, 99]⟩ 1 2 w (by decide) (by decide) (by decide)).mono (by rintro e w' ⟨r, x, rfl, h, hb⟩; obtain ⟨rfl, rfl⟩ := nm_at1 h; exact ⟨rfl, hb⟩)

theorem nq_a2 (w : World) : Calls Tryz.prog 6 #[.string ⟨#[97, 10, 98, 99]⟩, .agg #[.int .i64 1, .int .i64 3]] w fun e w' => e = .returned (.tuple #[.int .i64 0, .int .i64 7]) ∧ Below w.heap.size w w' :=
  (at_any ⟨#[97, 10, 98, 99]⟩ 1 3 w (by decide) (by decide) (by decide)).mono (by rintro e w' ⟨r, x, rfl, h, hb⟩; obtain ⟨rfl, rfl⟩ := nm_at2 h; exact ⟨rfl, hb⟩)

/-- Tokens that are made in a new block. -/
theorem tkIn_new (w : World) (l : List Tk) (hl : l.length ≤ 1000) : TkIn (w.alloc (.cells (tkCells l).toArray 35)) (w.alloc (.cells (tkCells l).toArray 35)).heap.size (.slice (some ⟨w.heap.size, 0, none⟩) l.length l.length) l :=
  tkIn_of_own (n₀ := w.heap.size) (by
    have := World.ownsRow_lit (base := w.heap.size) (e := 35) (size := 3) w (tkCells l).toArray l.length (Nat.le_refl _) (by unfold maxLen; omega) (by simp [tkCells_length])
    simpa using this)

theorem splIn_new (w : World) (l : List Spl) (hl : l.length ≤ 1000) : SplIn (w.alloc (.cells (splCells l).toArray 40)) (w.alloc (.cells (splCells l).toArray 40)).heap.size (.slice (some ⟨w.heap.size, 0, none⟩) l.length l.length) l :=
  splIn_of_own (n₀ := w.heap.size) (by
    have := World.ownsRow_lit (base := w.heap.size) (e := 40) (size := 3) w (splCells l).toArray l.length (Nat.le_refl _) (by unfold maxLen; omega) (by simp [splCells_length])
    simpa using this)

theorem nq_g1 (w : World) (h : NumVars w) : Calls Tryz.prog 7 #[.slice (some ⟨w.heap.size, 0, none⟩) 5 5] (w.alloc (.cells #[.int .u8 1, .string ⟨#[120]⟩, .int .i64 0, .int .u8 4, .string ⟨#[58]⟩, .int .i64 0, .int .u8 4, .string ⟨#[61]⟩, .int .i64 0, .int .u8 3, .string ⟨#[105, 110]⟩, .int .i64 0, .int .u8 4, .string ⟨#[40]⟩, .int .i64 0] 35))
    fun e w' => e = .returned (.tuple #[.string ⟨#[120, 58, 32, 61, 105, 110, 40]⟩, .int .i64 0]) ∧ Below w.heap.size w w' := by
  have := tight_any _ nmL1 _ (by decide) (by decide) (by decide +kernel) (h.alloc _) (tkIn_new w nmL1 (by decide))
  rw [nm_g1] at this
  exact this.mono (by rintro e w' ⟨rfl, hb⟩; exact ⟨rfl, ((Below.refl _ w).alloc (Nat.le_refl _) _).trans (hb.mono ((Below.refl _ w).alloc (Nat.le_refl _) _).size)⟩)

theorem nq_g2 (w : World) (h : NumVars w) : Calls Tryz.prog 7 #[.slice (some ⟨w.heap.size, 0, none⟩) 1 1] (w.alloc (.cells #[.int .u8 1, .string ⟨#[105, 110]⟩, .int .i64 0] 35))
    fun e w' => e = .returned (.tuple #[.string ⟨#[]⟩, .int .i64 2]) ∧ Below w.heap.size w w' := by
  have := tight_any _ nmL2 _ (by decide) (by decide) (by decide +kernel) (h.alloc _) (tkIn_new w nmL2 (by decide))
  rw [nm_g2] at this
  exact this.mono (by rintro e w' ⟨rfl, hb⟩; exact ⟨rfl, ((Below.refl _ w).alloc (Nat.le_refl _) _).trans (hb.mono ((Below.refl _ w).alloc (Nat.le_refl _) _).size)⟩)

theorem nq_g3 (w : World) (h : NumVars w) : Calls Tryz.prog 8 #[.slice (some ⟨w.heap.size, 0, none⟩) 2 2] (w.alloc (.cells #[.int .u8 4, .string ⟨#[40]⟩, .int .i64 0, .int .u8 4, .string ⟨#[125]⟩, .int .i64 0] 35))
    fun e w' => ∃ v, e = .returned (.tuple #[v, .int .i64 1, .int .i64 4]) ∧ Below w.heap.size w w' := by
  have := pairs_any _ nmL3 _ (by decide) (by decide) (h.alloc _) (tkIn_new w nmL3 (by decide))
  rw [nm_g3] at this
  exact this.mono (by rintro e w' ⟨v, rfl, hb, _⟩; exact ⟨v, rfl, ((Below.refl _ w).alloc (Nat.le_refl _) _).trans (hb.mono ((Below.refl _ w).alloc (Nat.le_refl _) _).size)⟩)

theorem nq_m1 (w : World) (v : Value) (h : SplIn w w.heap.size v nmSp) : Calls Tryz.prog 9 #[.string ⟨#[97, 98, 99]⟩, v, .int .i64 2] w fun e w' => e = .returned (.tuple #[.int .i64 3, .int .i64 0]) ∧ Below w.heap.size w w' := by
  have := moved_any ⟨#[97, 98, 99]⟩ v nmSp 2 w (by decide) (by decide) (by decide) h
  rw [nm_m1] at this
  exact this

theorem nq_m2 (w : World) (v : Value) (h : SplIn w w.heap.size v nmSp) : Calls Tryz.prog 9 #[.string ⟨#[97, 98, 99]⟩, v, .int .i64 1] w fun e w' => e = .returned (.tuple #[.int .i64 0, .int .i64 7]) ∧ Below w.heap.size w w' := by
  have := moved_any ⟨#[97, 98, 99]⟩ v nmSp 1 w (by decide) (by decide) (by decide) h
  rw [nm_m2] at this
  exact this

theorem splIn_one {W : World} {v : Value} {x : Spl} (h : SplIn W W.heap.size v [x]) : ∃ b off c, v = .slice (some ⟨b, off, none⟩) 1 c ∧ b < W.heap.size ∧ W.cell? ⟨b, off, none⟩ = some (.int .i64 x.from_) ∧ W.cell? ⟨b, off + 1, none⟩ = some (.int .i64 x.to_) ∧ W.cell? ⟨b, off + 2, none⟩ = some (.string x.text) := by
  obtain ⟨A, c, rfl, hA⟩ := h
  obtain ⟨b, off, rfl, hB, g1, g2, g3⟩ := hA 0 x rfl
  exact ⟨b, off, c, rfl, hB, by simpa using g1, by simpa using g2, by simpa using g3⟩

theorem nq_u (w : World) (v : Value) (h : SplIn w w.heap.size v nmSp) : Calls Tryz.prog 10 #[.string ⟨#[97, 98, 99]⟩, v] w fun e w' => ∃ b off c, e = .returned (.tuple #[.slice (some ⟨b, off, none⟩) 1 c, .int .i64 0]) ∧ Below w.heap.size w w' ∧
    b < w'.heap.size ∧ w'.cell? ⟨b, off, none⟩ = some (.int .i64 1) ∧ w'.cell? ⟨b, off + 1, none⟩ = some (.int .i64 3) ∧ w'.cell? ⟨b, off + 2, none⟩ = some (.string ⟨#[98]⟩) := by
  have := undo_any ⟨#[97, 98, 99]⟩ v nmSp w (by decide) (by decide) (by decide) h
  rw [nm_u] at this
  exact this.mono (by rintro e w' ⟨v', rfl, hb, hs⟩; obtain ⟨b, off, c, rfl, h1, h2, h3, h4⟩ := splIn_one hs; exact ⟨b, off, c, rfl, hb, h1, h2, h3, h4⟩)

theorem nq_d (w : World) : Calls Tryz.prog 11 #[.string ⟨#[97, 97, 98]⟩, .string ⟨#[97, 98]⟩] w fun e w' => ∃ b off c, e = .returned (.tuple #[.slice (some ⟨b, off, none⟩) 1 c, .int .i64 0]) ∧ Below w.heap.size w w' ∧
    b < w'.heap.size ∧ w'.cell? ⟨b, off, none⟩ = some (.int .i64 1) ∧ w'.cell? ⟨b, off + 1, none⟩ = some (.int .i64 2) ∧ w'.cell? ⟨b, off + 2, none⟩ = some (.string ⟨#[]⟩) := by
  have := diff_any ⟨#[97, 97, 98]⟩ ⟨#[97, 98]⟩ w (by decide) (by decide)
  rw [nm_d] at this
  exact this.mono (by rintro e w' ⟨v', rfl, hb, hs⟩; obtain ⟨b, off, c, rfl, h1, h2, h3, h4⟩ := splIn_one hs; exact ⟨b, off, c, rfl, hb, h1, h2, h3, h4⟩)

theorem nq_k (w : World) (h : NumVars w) : Calls Tryz.prog 12 #[.string ⟨#[97, 32, 98, 32, 99]⟩, .agg #[.int .i64 2, .int .i64 3, .string ⟨#[100, 32, 101]⟩]] w fun e w' => e = .returned (.tuple #[.int .i64 1, .int .i64 1, .int .i64 0]) ∧ Below w.heap.size w w' := by
  have := kept_any ⟨#[97, 32, 98, 32, 99]⟩ ⟨2, 3, ⟨#[100, 32, 101]⟩⟩ w (by decide) (by decide) h
  rw [nm_k] at this
  exact this

theorem nq_r {s o n : ByteArray} {x : Int} (hx : (renameRes s o n).2 = x) (hs : s.size ≤ 100) (ho : o.size ≤ 100) (hn : n.size ≤ 100) (w : World) (h : NumVars w) :
    Calls Tryz.prog 13 #[.string s, .string o, .string n] w fun e w' => ∃ t, e = .returned (.tuple #[.string t, .int .i64 x]) ∧ Below w.heap.size w w' := by
  have := rename_any s o n w (by omega) (by omega) (by omega) h
  rw [hx] at this
  exact this.mono (by rintro e w' ⟨rfl, hb⟩; exact ⟨_, rfl, hb⟩)

theorem neq32_lit (w : World) : (binOp .neq 27 (.agg #[.int .i64 2, .int .i64 2]) (.agg #[.int .i64 2, .int .i64 2])).run Tryz.prog w = .ok (.bool false) w := by kernel_rfl
theorem neq56_lit (w : World) : (binOp .neq 40 (.agg #[.int .i64 1, .int .i64 3, .string ⟨#[98]⟩]) (.agg #[.int .i64 1, .int .i64 3, .string ⟨#[98]⟩])).run Tryz.prog w = .ok (.bool false) w := by kernel_rfl
theorem eql56_lit (w : World) : (binOp .eql 40 (.agg #[.int .i64 1, .int .i64 2, .string ⟨#[]⟩]) (.agg #[.int .i64 1, .int .i64 2, .string ⟨#[]⟩])).run Tryz.prog w = .ok (.bool true) w := by kernel_rfl
end Go.Proofs.YtjadjmkbjolklaaGreatDoor
