/-
  The contract of rat.multiply.
-/
import Derived.Test.YtmpdicjjaoeblaaDoorVb
namespace Go.Proofs.YtmpdicjjaoeblaaDoor
open Go.RowKit Go.Shelf
set_option linter.unusedVariables false
theorem newPair {Y w' : World} {T : TypeId} (hb : Below (Y.alloc (.cells #[.int .u64 0, .int .u64 0] T)).heap.size (Y.alloc (.cells #[.int .u64 0, .int .u64 0] T)) w') :
    w'.cell? ⟨Y.heap.size, 0, none⟩ = some (.int .u64 0) ∧ w'.cell? ⟨Y.heap.size, 1, none⟩ = some (.int .u64 0) ∧ w'.frozen? ⟨Y.heap.size, 0, none⟩ = false ∧ w'.frozen? ⟨Y.heap.size, 1, none⟩ = false ∧ Y.heap.size < w'.heap.size ∧ ¬ w'.heap.size = Y.heap.size := by
  have c0 := kc ⟨Y.heap.size, 0, none⟩ (.int .u64 0) hb (new_cell Y _ _ 0)
  have c1 := kc ⟨Y.heap.size, 1, none⟩ (.int .u64 0) hb (new_cell Y _ _ 1)
  have k := World.block_lt_of_cell? _ _ c0
  have k' : Y.heap.size < w'.heap.size := k
  exact ⟨c0, c1, kf ⟨Y.heap.size, 0, none⟩ (.int .u64 0) hb (new_cell Y _ _ 0) (new_frozen Y _ _ 0), kf ⟨Y.heap.size, 1, none⟩ (.int .u64 0) hb (new_cell Y _ _ 1) (new_frozen Y _ _ 1), k', by omega⟩
theorem newPairD {Y w' : World} {T : TypeId} (hb : Below (Y.alloc (.cells #[.int .u64 0, .int .u64 0] T)).drew.heap.size (Y.alloc (.cells #[.int .u64 0, .int .u64 0] T)).drew w') :
    w'.cell? ⟨Y.heap.size, 0, none⟩ = some (.int .u64 0) ∧ w'.cell? ⟨Y.heap.size, 1, none⟩ = some (.int .u64 0) ∧ w'.frozen? ⟨Y.heap.size, 0, none⟩ = false ∧ w'.frozen? ⟨Y.heap.size, 1, none⟩ = false ∧ Y.heap.size < w'.heap.size ∧ ¬ w'.heap.size = Y.heap.size := newPair (undrew hb)
theorem newPairI {Y w' : World} {T : TypeId} (hb : Below (Y.drew.alloc (.cells #[.int .u64 0, .int .u64 0] T)).heap.size (Y.drew.alloc (.cells #[.int .u64 0, .int .u64 0] T)) w') :
    w'.cell? ⟨Y.heap.size, 0, none⟩ = some (.int .u64 0) ∧ w'.cell? ⟨Y.heap.size, 1, none⟩ = some (.int .u64 0) ∧ w'.frozen? ⟨Y.heap.size, 0, none⟩ = false ∧ w'.frozen? ⟨Y.heap.size, 1, none⟩ = false ∧ Y.heap.size < w'.heap.size ∧ ¬ w'.heap.size = Y.heap.size := newPair (Y := Y.drew) hb
end Go.Proofs.YtmpdicjjaoeblaaDoor
