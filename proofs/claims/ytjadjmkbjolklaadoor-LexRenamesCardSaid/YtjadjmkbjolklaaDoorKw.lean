/- The map of the keywords: made, asked. -/
import Derived.WalkKit
import Derived.MapKept
import Derived.Carry
import Derived.Test.YtjadjmkbjolklaaDoorProg
namespace Go.Proofs.YtjadjmkbjolklaaDoor
open Go.RowKit Go.MapKept

theorem alloc_set (w : World) (o o' : Obj) : ({ w.alloc o with heap := (w.alloc o).heap.setIfInBounds w.heap.size o' } : World) = w.alloc o' := by
  show ({ w with heap := (w.heap.push o).setIfInBounds w.heap.size o' } : World) = { w with heap := w.heap.push o' }
  congr 1
  apply Array.ext'
  simp

/-- A new string put into a map that lies last. -/
theorem run_insert_new {P : Program} (w : World) {T K E : TypeId} (hT : P.underlying T = some (.map K E)) (hK : P.underlying K = some .string) (es : Array MapEntry) (c : Nat) (s : ByteArray) (v : Value)
    (hnew : Instr.findNow .string (.string s) es.toList 0 = some none) :
    (Instr.mapUpdate T (.map (some w.heap.size)) (.string s) v).run P (w.alloc (.map es c)) = .ok () (w.alloc (.map (es.push ⟨.string s, v, c⟩) (c + 1))) := by
  have hb := (heap_alloc w (.map es c)).1
  have hk : IsKey .string (.string s) := by simp [IsKey]
  simp only [Instr.mapUpdate, Sem.run_bind, run_underlying hT, Result.andThen, MapKept.run_getObj_map hb, run_checkKey hK hk, run_findKey hK hnew, MapKept.run_setObj_map _ hb]
  exact congrArg (Result.ok ()) (alloc_set w (.map es c) _)

/-- The keywords, in the order in which they are put. -/
def kwL : List ByteArray := [⟨#[97, 110, 100]⟩, ⟨#[97, 115]⟩, ⟨#[98, 111, 111, 108]⟩, ⟨#[99, 101, 108, 108]⟩, ⟨#[99, 104, 111, 111, 115, 101]⟩, ⟨#[99, 111, 109]⟩, ⟨#[100, 101, 102]⟩, ⟨#[100, 111]⟩, ⟨#[101, 108, 115, 101]⟩, ⟨#[101, 120, 112, 111, 114, 116]⟩, ⟨#[102, 97, 108, 115, 101]⟩, ⟨#[102, 110]⟩, ⟨#[103, 101, 116]⟩, ⟨#[104, 97, 110, 103]⟩, ⟨#[105, 102]⟩, ⟨#[105, 109, 112, 111, 114, 116]⟩, ⟨#[105, 110]⟩, ⟨#[105, 110, 116]⟩, ⟨#[106, 117, 109, 112]⟩, ⟨#[108, 97, 98, 101, 108]⟩, ⟨#[110, 101, 119]⟩, ⟨#[110, 111, 116]⟩, ⟨#[110, 111, 116, 105, 99, 101]⟩, ⟨#[111, 102]⟩, ⟨#[111, 114]⟩, ⟨#[112, 117, 116]⟩, ⟨#[115, 107, 105, 112]⟩, ⟨#[116, 104, 101, 110]⟩, ⟨#[116, 114, 117, 101]⟩, ⟨#[119, 104, 105, 108, 101]⟩]

def kwArr (n : Nat) : Array MapEntry := ((kwL.take n).zipIdx.map fun (s, i) => (⟨.string s, .bool true, i⟩ : MapEntry)).toArray

/-- Block b is the map of the keywords. -/
def KwMap (w : World) (b : Nat) : Prop := w.heap[b]? = some (.map (kwArr 30) 30)

theorem KwMap.lt {w : World} {b : Nat} (h : KwMap w b) : b < w.heap.size := (Array.getElem?_eq_some_iff.1 h).1
theorem KwMap.below {w w' : World} {B b : Nat} (h : KwMap w b) (hb : Below B w w') (hB : b < B) : KwMap w' b := (hb.block b hB).trans h

def isKw (s : ByteArray) : Bool := kwL.any fun k => k.data.toList == s.data.toList

theorem kw_put (n : Nat) (s : ByteArray) (h1 : Instr.findNow .string (.string s) (kwArr n).toList 0 = some none) (h2 : (kwArr n).push ⟨.string s, .bool true, n⟩ = kwArr (n + 1)) (w : World) :
    (Instr.mapUpdate 69 (.map (some w.heap.size)) (.string s) (.bool true)).run Tryd.prog (w.alloc (.map (kwArr n) n)) = .ok () (w.alloc (.map (kwArr (n + 1)) (n + 1))) := by
  rw [run_insert_new w Tryd.underlying69 Tryd.underlying9 (kwArr n) n s (.bool true) h1, h2]

theorem isKw_find (s : ByteArray) : ∀ (l : List ByteArray) (i n : Nat),
    (∃ j : Nat, Instr.findNow .string (.string s) ((l.zipIdx i).map fun (k, i) => (⟨.string k, .bool true, i⟩ : MapEntry)) n = some (some (j, .bool true)) ∧ (l.any fun k => k.data.toList == s.data.toList) = true) ∨
    (Instr.findNow .string (.string s) ((l.zipIdx i).map fun (k, i) => (⟨.string k, .bool true, i⟩ : MapEntry)) n = some none ∧ (l.any fun k => k.data.toList == s.data.toList) = false)
  | [], i, n => .inr ⟨rfl, rfl⟩
  | k :: l, i, n => by
    rw [List.zipIdx_cons, List.map_cons, List.any_cons]
    by_cases h : s = k
    · subst h
      have h0 : (s == s) = true := (MapKept.bytes_beq s s).2 rfl
      exact .inl ⟨n, by simp [Instr.findNow, Instr.sameNow, h0], by simp⟩
    · have h1 : (s == k) = false := by
        rw [Bool.eq_false_iff]
        exact fun e => h ((MapKept.bytes_beq s k).1 e)
      have h2 : (k.data.toList == s.data.toList) = false := by
        rw [Bool.eq_false_iff]
        intro e
        apply h
        have e1 := eq_of_beq e
        obtain ⟨⟨x⟩⟩ := k
        obtain ⟨⟨y⟩⟩ := s
        simp_all
      rw [h2, Bool.false_or]
      rcases isKw_find s l (i + 1) (n + 1) with ⟨j, e1, e2⟩ | ⟨e1, e2⟩
      · exact .inl ⟨j, by simp [Instr.findNow, Instr.sameNow, h1, e1], e2⟩
      · exact .inr ⟨by simp [Instr.findNow, Instr.sameNow, h1, e1], e2⟩

/-- The map of the keywords, asked. -/
theorem kw_look {w : World} {b : Nat} (h : KwMap w b) (s : ByteArray) :
    (Instr.lookup 69 (.map (some b)) (.string s) false).run Tryd.prog w = .ok (.bool (isKw s)) w := by
  have hk : IsKey .string (.string s) := by simp [IsKey]
  have hz : (zeroValue 4).run Tryd.prog w = .ok (.bool false) w := by kernel_rfl
  have hl : (kwArr 30).toList = (kwL.zipIdx 0).map fun (k, i) => (⟨.string k, .bool true, i⟩ : MapEntry) := by kernel_rfl
  rcases isKw_find s kwL 0 0 with ⟨j, e1, e2⟩ | ⟨e1, e2⟩
  · rw [← hl] at e1
    unfold isKw
    rw [e2]
    simp only [Instr.lookup, Sem.run_bind, run_underlying Tryd.underlying69, Result.andThen, MapKept.run_getObj_map h, Sem.run_pure, run_checkKey Tryd.underlying9 hk, run_findKey Tryd.underlying9 e1]
    simp
  · rw [← hl] at e1
    unfold isKw
    rw [e2]
    simp only [Instr.lookup, Sem.run_bind, run_underlying Tryd.underlying69, Result.andThen, MapKept.run_getObj_map h, Sem.run_pure, run_checkKey Tryd.underlying9 hk, run_findKey Tryd.underlying9 e1, hz]
    simp

set_option maxHeartbeats 1000000 in
set_option maxRecDepth 100000 in
theorem keywords_any (w : World) :
    Calls Tryd.prog 50 #[] w fun e w' => e = .returned (.map (some w.heap.size)) ∧ w' = w.alloc (.map (kwArr 30) 30) := by
  have hm : ∀ w : World, (Instr.makeMap 69 none).run Tryd.prog w = .ok (.map (some w.heap.size)) (w.alloc (.map (kwArr 0) 0)) := fun w => by
    rw [run_makeMap]
    rfl
  have i0 := kw_put 0 ⟨#[97, 110, 100]⟩ (by kernel_rfl) (by kernel_rfl)
  have i1 := kw_put 1 ⟨#[97, 115]⟩ (by kernel_rfl) (by kernel_rfl)
  have i2 := kw_put 2 ⟨#[98, 111, 111, 108]⟩ (by kernel_rfl) (by kernel_rfl)
  have i3 := kw_put 3 ⟨#[99, 101, 108, 108]⟩ (by kernel_rfl) (by kernel_rfl)
  have i4 := kw_put 4 ⟨#[99, 104, 111, 111, 115, 101]⟩ (by kernel_rfl) (by kernel_rfl)
  have i5 := kw_put 5 ⟨#[99, 111, 109]⟩ (by kernel_rfl) (by kernel_rfl)
  have i6 := kw_put 6 ⟨#[100, 101, 102]⟩ (by kernel_rfl) (by kernel_rfl)
  have i7 := kw_put 7 ⟨#[100, 111]⟩ (by kernel_rfl) (by kernel_rfl)
  have i8 := kw_put 8 ⟨#[101, 108, 115, 101]⟩ (by kernel_rfl) (by kernel_rfl)
  have i9 := kw_put 9 ⟨#[101, 120, 112, 111, 114, 116]⟩ (by kernel_rfl) (by kernel_rfl)
  have i10 := kw_put 10 ⟨#[102, 97, 108, 115, 101]⟩ (by kernel_rfl) (by kernel_rfl)
  have i11 := kw_put 11 ⟨#[102, 110]⟩ (by kernel_rfl) (by kernel_rfl)
  have i12 := kw_put 12 ⟨#[103, 101, 116]⟩ (by kernel_rfl) (by kernel_rfl)
  have i13 := kw_put 13 ⟨#[104, 97, 110, 103]⟩ (by kernel_rfl) (by kernel_rfl)
  have i14 := kw_put 14 ⟨#[105, 102]⟩ (by kernel_rfl) (by kernel_rfl)
  have i15 := kw_put 15 ⟨#[105, 109, 112, 111, 114, 116]⟩ (by kernel_rfl) (by kernel_rfl)
  have i16 := kw_put 16 ⟨#[105, 110]⟩ (by kernel_rfl) (by kernel_rfl)
  have i17 := kw_put 17 ⟨#[105, 110, 116]⟩ (by kernel_rfl) (by kernel_rfl)
  have i18 := kw_put 18 ⟨#[106, 117, 109, 112]⟩ (by kernel_rfl) (by kernel_rfl)
  have i19 := kw_put 19 ⟨#[108, 97, 98, 101, 108]⟩ (by kernel_rfl) (by kernel_rfl)
  have i20 := kw_put 20 ⟨#[110, 101, 119]⟩ (by kernel_rfl) (by kernel_rfl)
  have i21 := kw_put 21 ⟨#[110, 111, 116]⟩ (by kernel_rfl) (by kernel_rfl)
  have i22 := kw_put 22 ⟨#[110, 111, 116, 105, 99, 101]⟩ (by kernel_rfl) (by kernel_rfl)
  have i23 := kw_put 23 ⟨#[111, 102]⟩ (by kernel_rfl) (by kernel_rfl)
  have i24 := kw_put 24 ⟨#[111, 114]⟩ (by kernel_rfl) (by kernel_rfl)
  have i25 := kw_put 25 ⟨#[112, 117, 116]⟩ (by kernel_rfl) (by kernel_rfl)
  have i26 := kw_put 26 ⟨#[115, 107, 105, 112]⟩ (by kernel_rfl) (by kernel_rfl)
  have i27 := kw_put 27 ⟨#[116, 104, 101, 110]⟩ (by kernel_rfl) (by kernel_rfl)
  have i28 := kw_put 28 ⟨#[116, 114, 117, 101]⟩ (by kernel_rfl) (by kernel_rfl)
  have i29 := kw_put 29 ⟨#[119, 104, 105, 108, 101]⟩ (by kernel_rfl) (by kernel_rfl)
  go_enter Tryd.func50, Tryd.ntmps50
  go_wp2_with fail
  go_ret
  exact ⟨rfl, rfl⟩
end Go.Proofs.YtjadjmkbjolklaaDoor
