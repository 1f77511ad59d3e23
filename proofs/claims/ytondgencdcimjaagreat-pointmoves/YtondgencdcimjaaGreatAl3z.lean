/-
  Book: a list kept; lists of no elements; Alone.
-/
import Derived.Test.YtondgencdcimjaaGreatAl2z
import Derived.Test.YtondgencdcimjaaGreatZc
namespace Go.Proofs.YtondgencdcimjaaGreat
open Go.RowKit Go.Shelf
set_option linter.unusedVariables false
set_option maxRecDepth 100000
theorem aloneBytes_nil (Bk : Nat) (w : World) (h : w.cell? ⟨Bk, 0, none⟩ = some (.slice none 0 0)) : Calls Tryz.prog 53 #[.pointer (some ⟨Bk, 0, none⟩)] w fun e w' => e = .returned (.bool true) ∧ w' = w := by
  go_enter Tryz.func53, Tryz.ntmps53
  go_wp2_with fail
  go_loopw [3] (fun s wr => s = .int .i64 0 ∧ wr = w) (fun _ _ => 0)
  case atStart => exact ⟨rfl, rfl⟩
  case round =>
    obtain ⟨rfl, rfl⟩ := hrel
    go_wp2_with fail
    go_loopw [5, 6] (fun a s wq => a = .slice none 0 0 ∧ s = .int .i64 0 ∧ wq = wr) (fun _ _ _ => 0)
    case atStart => exact ⟨rfl, rfl, rfl⟩
    case round =>
      obtain ⟨rfl, rfl, rfl⟩ := hrel
      go_wp2_with fail
      go_loopw [9] (fun s wq => s = .int .i64 0 ∧ wq = wr) (fun _ _ => 0)
      case atStart => exact ⟨rfl, rfl⟩
      case round =>
        obtain ⟨rfl, rfl⟩ := hrel
        go_wp2_with fail
        go_ret
        exact ⟨rfl, rfl⟩
theorem aloneTexts_nil (Bk : Nat) (w : World) (h : w.cell? ⟨Bk, 1, none⟩ = some (.slice none 0 0)) : Calls Tryz.prog 54 #[.pointer (some ⟨Bk, 0, none⟩)] w fun e w' => e = .returned (.bool true) ∧ w' = w := by
  go_enter Tryz.func54, Tryz.ntmps54
  go_wp2_with fail
  go_loopw [3] (fun s wr => s = .int .i64 0 ∧ wr = w) (fun _ _ => 0)
  case atStart => exact ⟨rfl, rfl⟩
  case round =>
    obtain ⟨rfl, rfl⟩ := hrel
    go_wp2_with fail
    go_loopw [5, 6] (fun a s wq => a = .slice none 0 0 ∧ s = .int .i64 0 ∧ wq = wr) (fun _ _ _ => 0)
    case atStart => exact ⟨rfl, rfl, rfl⟩
    case round =>
      obtain ⟨rfl, rfl, rfl⟩ := hrel
      go_wp2_with fail
      go_loopw [9] (fun s wq => s = .int .i64 0 ∧ wq = wr) (fun _ _ => 0)
      case atStart => exact ⟨rfl, rfl⟩
      case round =>
        obtain ⟨rfl, rfl⟩ := hrel
        go_wp2_with fail
        go_ret
        exact ⟨rfl, rfl⟩
theorem aloneInts_nil (Bk : Nat) (w : World) (h : w.cell? ⟨Bk, 2, none⟩ = some (.slice none 0 0)) : Calls Tryz.prog 55 #[.pointer (some ⟨Bk, 0, none⟩)] w fun e w' => e = .returned (.bool true) ∧ w' = w := by
  go_enter Tryz.func55, Tryz.ntmps55
  go_wp2_with fail
  go_loopw [3] (fun s wr => s = .int .i64 0 ∧ wr = w) (fun _ _ => 0)
  case atStart => exact ⟨rfl, rfl⟩
  case round =>
    obtain ⟨rfl, rfl⟩ := hrel
    go_wp2_with fail
    go_loopw [5, 6] (fun a s wq => a = .slice none 0 0 ∧ s = .int .i64 0 ∧ wq = wr) (fun _ _ _ => 0)
    case atStart => exact ⟨rfl, rfl, rfl⟩
    case round =>
      obtain ⟨rfl, rfl, rfl⟩ := hrel
      go_wp2_with fail
      go_loopw [9] (fun s wq => s = .int .i64 0 ∧ wq = wr) (fun _ _ => 0)
      case atStart => exact ⟨rfl, rfl⟩
      case round =>
        obtain ⟨rfl, rfl⟩ := hrel
        go_wp2_with fail
        go_ret
        exact ⟨rfl, rfl⟩
theorem aloneInt64s_nil (Bk : Nat) (w : World) (h : w.cell? ⟨Bk, 3, none⟩ = some (.slice none 0 0)) : Calls Tryz.prog 56 #[.pointer (some ⟨Bk, 0, none⟩)] w fun e w' => e = .returned (.bool true) ∧ w' = w := by
  go_enter Tryz.func56, Tryz.ntmps56
  go_wp2_with fail
  go_loopw [3] (fun s wr => s = .int .i64 0 ∧ wr = w) (fun _ _ => 0)
  case atStart => exact ⟨rfl, rfl⟩
  case round =>
    obtain ⟨rfl, rfl⟩ := hrel
    go_wp2_with fail
    go_loopw [5, 6] (fun a s wq => a = .slice none 0 0 ∧ s = .int .i64 0 ∧ wq = wr) (fun _ _ _ => 0)
    case atStart => exact ⟨rfl, rfl, rfl⟩
    case round =>
      obtain ⟨rfl, rfl, rfl⟩ := hrel
      go_wp2_with fail
      go_loopw [9] (fun s wq => s = .int .i64 0 ∧ wq = wr) (fun _ _ => 0)
      case atStart => exact ⟨rfl, rfl⟩
      case round =>
        obtain ⟨rfl, rfl⟩ := hrel
        go_wp2_with fail
        go_ret
        exact ⟨rfl, rfl⟩
theorem aloneBounds_nil (Bk : Nat) (w : World) (h : w.cell? ⟨Bk, 4, none⟩ = some (.slice none 0 0)) : Calls Tryz.prog 57 #[.pointer (some ⟨Bk, 0, none⟩)] w fun e w' => e = .returned (.bool true) ∧ w' = w := by
  go_enter Tryz.func57, Tryz.ntmps57
  go_wp2_with fail
  go_loopw [3] (fun s wr => s = .int .i64 0 ∧ wr = w) (fun _ _ => 0)
  case atStart => exact ⟨rfl, rfl⟩
  case round =>
    obtain ⟨rfl, rfl⟩ := hrel
    go_wp2_with fail
    go_loopw [5, 6] (fun a s wq => a = .slice none 0 0 ∧ s = .int .i64 0 ∧ wq = wr) (fun _ _ _ => 0)
    case atStart => exact ⟨rfl, rfl, rfl⟩
    case round =>
      obtain ⟨rfl, rfl, rfl⟩ := hrel
      go_wp2_with fail
      go_loopw [9] (fun s wq => s = .int .i64 0 ∧ wq = wr) (fun _ _ => 0)
      case atStart => exact ⟨rfl, rfl⟩
      case round =>
        obtain ⟨rfl, rfl⟩ := hrel
        go_wp2_with fail
        go_ret
        exact ⟨rfl, rfl⟩
theorem aloneLimits_nil (Bk : Nat) (w : World) (h : w.cell? ⟨Bk, 6, none⟩ = some (.slice none 0 0)) : Calls Tryz.prog 59 #[.pointer (some ⟨Bk, 0, none⟩)] w fun e w' => e = .returned (.bool true) ∧ w' = w := by
  go_enter Tryz.func59, Tryz.ntmps59
  go_wp2_with fail
  go_loopw [3] (fun s wr => s = .int .i64 0 ∧ wr = w) (fun _ _ => 0)
  case atStart => exact ⟨rfl, rfl⟩
  case round =>
    obtain ⟨rfl, rfl⟩ := hrel
    go_wp2_with fail
    go_loopw [5, 6] (fun a s wq => a = .slice none 0 0 ∧ s = .int .i64 0 ∧ wq = wr) (fun _ _ _ => 0)
    case atStart => exact ⟨rfl, rfl, rfl⟩
    case round =>
      obtain ⟨rfl, rfl, rfl⟩ := hrel
      go_wp2_with fail
      go_loopw [9] (fun s wq => s = .int .i64 0 ∧ wq = wr) (fun _ _ => 0)
      case atStart => exact ⟨rfl, rfl⟩
      case round =>
        obtain ⟨rfl, rfl⟩ := hrel
        go_wp2_with fail
        go_ret
        exact ⟨rfl, rfl⟩
theorem aloneGuards_nil (Bk : Nat) (w : World) (h : w.cell? ⟨Bk, 7, none⟩ = some (.slice none 0 0)) : Calls Tryz.prog 60 #[.pointer (some ⟨Bk, 0, none⟩)] w fun e w' => e = .returned (.bool true) ∧ w' = w := by
  go_enter Tryz.func60, Tryz.ntmps60
  go_wp2_with fail
  go_loopw [3] (fun s wr => s = .int .i64 0 ∧ wr = w) (fun _ _ => 0)
  case atStart => exact ⟨rfl, rfl⟩
  case round =>
    obtain ⟨rfl, rfl⟩ := hrel
    go_wp2_with fail
    go_loopw [5, 6] (fun a s wq => a = .slice none 0 0 ∧ s = .int .i64 0 ∧ wq = wr) (fun _ _ _ => 0)
    case atStart => exact ⟨rfl, rfl, rfl⟩
    case round =>
      obtain ⟨rfl, rfl, rfl⟩ := hrel
      go_wp2_with fail
      go_loopw [9] (fun s wq => s = .int .i64 0 ∧ wq = wr) (fun _ _ => 0)
      case atStart => exact ⟨rfl, rfl⟩
      case round =>
        obtain ⟨rfl, rfl⟩ := hrel
        go_wp2_with fail
        go_ret
        exact ⟨rfl, rfl⟩
theorem aloneNodes_nil (Bk : Nat) (w : World) (h : w.cell? ⟨Bk, 8, none⟩ = some (.slice none 0 0)) : Calls Tryz.prog 61 #[.pointer (some ⟨Bk, 0, none⟩)] w fun e w' => e = .returned (.bool true) ∧ w' = w := by
  go_enter Tryz.func61, Tryz.ntmps61
  go_wp2_with fail
  go_loopw [3] (fun s wr => s = .int .i64 0 ∧ wr = w) (fun _ _ => 0)
  case atStart => exact ⟨rfl, rfl⟩
  case round =>
    obtain ⟨rfl, rfl⟩ := hrel
    go_wp2_with fail
    go_loopw [5, 6] (fun a s wq => a = .slice none 0 0 ∧ s = .int .i64 0 ∧ wq = wr) (fun _ _ _ => 0)
    case atStart => exact ⟨rfl, rfl, rfl⟩
    case round =>
      obtain ⟨rfl, rfl, rfl⟩ := hrel
      go_wp2_with fail
      go_loopw [9] (fun s wq => s = .int .i64 0 ∧ wq = wr) (fun _ _ => 0)
      case atStart => exact ⟨rfl, rfl⟩
      case round =>
        obtain ⟨rfl, rfl⟩ := hrel
        go_wp2_with fail
        go_ret
        exact ⟨rfl, rfl⟩
theorem aloneMoves_nil (Bk : Nat) (w : World) (h : w.cell? ⟨Bk, 9, none⟩ = some (.slice none 0 0)) : Calls Tryz.prog 62 #[.pointer (some ⟨Bk, 0, none⟩)] w fun e w' => e = .returned (.bool true) ∧ w' = w := by
  go_enter Tryz.func62, Tryz.ntmps62
  go_wp2_with fail
  go_loopw [3] (fun s wr => s = .int .i64 0 ∧ wr = w) (fun _ _ => 0)
  case atStart => exact ⟨rfl, rfl⟩
  case round =>
    obtain ⟨rfl, rfl⟩ := hrel
    go_wp2_with fail
    go_loopw [5, 6] (fun a s wq => a = .slice none 0 0 ∧ s = .int .i64 0 ∧ wq = wr) (fun _ _ _ => 0)
    case atStart => exact ⟨rfl, rfl, rfl⟩
    case round =>
      obtain ⟨rfl, rfl, rfl⟩ := hrel
      go_wp2_with fail
      go_loopw [9] (fun s wq => s = .int .i64 0 ∧ wq = wr) (fun _ _ => 0)
      case atStart => exact ⟨rfl, rfl⟩
      case round =>
        obtain ⟨rfl, rfl⟩ := hrel
        go_wp2_with fail
        go_ret
        exact ⟨rfl, rfl⟩
theorem aloneDiffs_nil (Bk : Nat) (w : World) (h : w.cell? ⟨Bk, 10, none⟩ = some (.slice none 0 0)) : Calls Tryz.prog 63 #[.pointer (some ⟨Bk, 0, none⟩)] w fun e w' => e = .returned (.bool true) ∧ w' = w := by
  go_enter Tryz.func63, Tryz.ntmps63
  go_wp2_with fail
  go_loopw [3] (fun s wr => s = .int .i64 0 ∧ wr = w) (fun _ _ => 0)
  case atStart => exact ⟨rfl, rfl⟩
  case round =>
    obtain ⟨rfl, rfl⟩ := hrel
    go_wp2_with fail
    go_loopw [5, 6] (fun a s wq => a = .slice none 0 0 ∧ s = .int .i64 0 ∧ wq = wr) (fun _ _ _ => 0)
    case atStart => exact ⟨rfl, rfl, rfl⟩
    case round =>
      obtain ⟨rfl, rfl, rfl⟩ := hrel
      go_wp2_with fail
      go_loopw [9] (fun s wq => s = .int .i64 0 ∧ wq = wr) (fun _ _ => 0)
      case atStart => exact ⟨rfl, rfl⟩
      case round =>
        obtain ⟨rfl, rfl⟩ := hrel
        go_wp2_with fail
        go_ret
        exact ⟨rfl, rfl⟩
theorem aloneSteps_nil (Bk : Nat) (w : World) (h : w.cell? ⟨Bk, 11, none⟩ = some (.slice none 0 0)) : Calls Tryz.prog 64 #[.pointer (some ⟨Bk, 0, none⟩)] w fun e w' => e = .returned (.bool true) ∧ w' = w := by
  go_enter Tryz.func64, Tryz.ntmps64
  go_wp2_with fail
  go_loopw [3] (fun s wr => s = .int .i64 0 ∧ wr = w) (fun _ _ => 0)
  case atStart => exact ⟨rfl, rfl⟩
  case round =>
    obtain ⟨rfl, rfl⟩ := hrel
    go_wp2_with fail
    go_loopw [5, 6] (fun a s wq => a = .slice none 0 0 ∧ s = .int .i64 0 ∧ wq = wr) (fun _ _ _ => 0)
    case atStart => exact ⟨rfl, rfl, rfl⟩
    case round =>
      obtain ⟨rfl, rfl, rfl⟩ := hrel
      go_wp2_with fail
      go_loopw [9] (fun s wq => s = .int .i64 0 ∧ wq = wr) (fun _ _ => 0)
      case atStart => exact ⟨rfl, rfl⟩
      case round =>
        obtain ⟨rfl, rfl⟩ := hrel
        go_wp2_with fail
        go_ret
        exact ⟨rfl, rfl⟩
theorem aloneAts_nil (Bk : Nat) (w : World) (h : w.cell? ⟨Bk, 12, none⟩ = some (.slice none 0 0)) : Calls Tryz.prog 65 #[.pointer (some ⟨Bk, 0, none⟩)] w fun e w' => e = .returned (.bool true) ∧ w' = w := by
  go_enter Tryz.func65, Tryz.ntmps65
  go_wp2_with fail
  go_loopw [3] (fun s wr => s = .int .i64 0 ∧ wr = w) (fun _ _ => 0)
  case atStart => exact ⟨rfl, rfl⟩
  case round =>
    obtain ⟨rfl, rfl⟩ := hrel
    go_wp2_with fail
    go_loopw [5, 6] (fun a s wq => a = .slice none 0 0 ∧ s = .int .i64 0 ∧ wq = wr) (fun _ _ _ => 0)
    case atStart => exact ⟨rfl, rfl, rfl⟩
    case round =>
      obtain ⟨rfl, rfl, rfl⟩ := hrel
      go_wp2_with fail
      go_loopw [9] (fun s wq => s = .int .i64 0 ∧ wq = wr) (fun _ _ => 0)
      case atStart => exact ⟨rfl, rfl⟩
      case round =>
        obtain ⟨rfl, rfl⟩ := hrel
        go_wp2_with fail
        go_ret
        exact ⟨rfl, rfl⟩
theorem aloneBools_nil (Bk : Nat) (w : World) (h : w.cell? ⟨Bk, 13, none⟩ = some (.slice none 0 0)) : Calls Tryz.prog 66 #[.pointer (some ⟨Bk, 0, none⟩)] w fun e w' => e = .returned (.bool true) ∧ w' = w := by
  go_enter Tryz.func66, Tryz.ntmps66
  go_wp2_with fail
  go_loopw [3] (fun s wr => s = .int .i64 0 ∧ wr = w) (fun _ _ => 0)
  case atStart => exact ⟨rfl, rfl⟩
  case round =>
    obtain ⟨rfl, rfl⟩ := hrel
    go_wp2_with fail
    go_loopw [5, 6] (fun a s wq => a = .slice none 0 0 ∧ s = .int .i64 0 ∧ wq = wr) (fun _ _ _ => 0)
    case atStart => exact ⟨rfl, rfl, rfl⟩
    case round =>
      obtain ⟨rfl, rfl, rfl⟩ := hrel
      go_wp2_with fail
      go_loopw [9] (fun s wq => s = .int .i64 0 ∧ wq = wr) (fun _ _ => 0)
      case atStart => exact ⟨rfl, rfl⟩
      case round =>
        obtain ⟨rfl, rfl⟩ := hrel
        go_wp2_with fail
        go_ret
        exact ⟨rfl, rfl⟩
/-- A book that keeps lists of fractions alone. -/
def BookAt (W : World) (Bk : Nat) (rv : Value) : Prop := W.heap[Bk]? = some (.cells #[.slice none 0 0, .slice none 0 0, .slice none 0 0, .slice none 0 0, .slice none 0 0, rv, .slice none 0 0, .slice none 0 0, .slice none 0 0, .slice none 0 0, .slice none 0 0, .slice none 0 0, .slice none 0 0, .slice none 0 0] 56)
theorem BookAt.past {W W' : World} {Bk : Nat} {rv : Value} (h : BookAt W Bk rv) (hb : W'.heap[Bk]? = W.heap[Bk]?) : BookAt W' Bk rv := hb.trans h
theorem BookAt.free {W : World} {Bk : Nat} {rv : Value} (h : BookAt W Bk rv) (k : Nat) : W.frozen? ⟨Bk, k, none⟩ = false := by
  unfold BookAt at h
  simp [World.frozen?, h]
theorem BookAt.c0 {W : World} {Bk : Nat} {rv : Value} (h : BookAt W Bk rv) : W.cell? ⟨Bk, 0, none⟩ = some (.slice none 0 0) := by
  unfold BookAt at h
  simp [World.cell?, h]
theorem BookAt.c1 {W : World} {Bk : Nat} {rv : Value} (h : BookAt W Bk rv) : W.cell? ⟨Bk, 1, none⟩ = some (.slice none 0 0) := by
  unfold BookAt at h
  simp [World.cell?, h]
theorem BookAt.c2 {W : World} {Bk : Nat} {rv : Value} (h : BookAt W Bk rv) : W.cell? ⟨Bk, 2, none⟩ = some (.slice none 0 0) := by
  unfold BookAt at h
  simp [World.cell?, h]
theorem BookAt.c3 {W : World} {Bk : Nat} {rv : Value} (h : BookAt W Bk rv) : W.cell? ⟨Bk, 3, none⟩ = some (.slice none 0 0) := by
  unfold BookAt at h
  simp [World.cell?, h]
theorem BookAt.c4 {W : World} {Bk : Nat} {rv : Value} (h : BookAt W Bk rv) : W.cell? ⟨Bk, 4, none⟩ = some (.slice none 0 0) := by
  unfold BookAt at h
  simp [World.cell?, h]
theorem BookAt.c5 {W : World} {Bk : Nat} {rv : Value} (h : BookAt W Bk rv) : W.cell? ⟨Bk, 5, none⟩ = some (rv) := by
  unfold BookAt at h
  simp [World.cell?, h]
theorem BookAt.c6 {W : World} {Bk : Nat} {rv : Value} (h : BookAt W Bk rv) : W.cell? ⟨Bk, 6, none⟩ = some (.slice none 0 0) := by
  unfold BookAt at h
  simp [World.cell?, h]
theorem BookAt.c7 {W : World} {Bk : Nat} {rv : Value} (h : BookAt W Bk rv) : W.cell? ⟨Bk, 7, none⟩ = some (.slice none 0 0) := by
  unfold BookAt at h
  simp [World.cell?, h]
theorem BookAt.c8 {W : World} {Bk : Nat} {rv : Value} (h : BookAt W Bk rv) : W.cell? ⟨Bk, 8, none⟩ = some (.slice none 0 0) := by
  unfold BookAt at h
  simp [World.cell?, h]
theorem BookAt.c9 {W : World} {Bk : Nat} {rv : Value} (h : BookAt W Bk rv) : W.cell? ⟨Bk, 9, none⟩ = some (.slice none 0 0) := by
  unfold BookAt at h
  simp [World.cell?, h]
theorem BookAt.c10 {W : World} {Bk : Nat} {rv : Value} (h : BookAt W Bk rv) : W.cell? ⟨Bk, 10, none⟩ = some (.slice none 0 0) := by
  unfold BookAt at h
  simp [World.cell?, h]
theorem BookAt.c11 {W : World} {Bk : Nat} {rv : Value} (h : BookAt W Bk rv) : W.cell? ⟨Bk, 11, none⟩ = some (.slice none 0 0) := by
  unfold BookAt at h
  simp [World.cell?, h]
theorem BookAt.c12 {W : World} {Bk : Nat} {rv : Value} (h : BookAt W Bk rv) : W.cell? ⟨Bk, 12, none⟩ = some (.slice none 0 0) := by
  unfold BookAt at h
  simp [World.cell?, h]
theorem BookAt.c13 {W : World} {Bk : Nat} {rv : Value} (h : BookAt W Bk rv) : W.cell? ⟨Bk, 13, none⟩ = some (.slice none 0 0) := by
  unfold BookAt at h
  simp [World.cell?, h]
theorem book_set {W : World} {Bk : Nat} {rv : Value} (h : BookAt W Bk rv) (v : Value) : BookAt (W.setCell ⟨Bk, 5, none⟩ v) Bk v := by
  have := set_obj (k := 5) h v
  exact this
theorem lt_book {W : World} {Bk : Nat} {rv : Value} (h : BookAt W Bk rv) : Bk < W.heap.size := (Array.getElem?_eq_some_iff.1 h).1
theorem take_step {w w7 : World} {Bk K : Nat} {rv v3 : Value} {Vs : List Value} {e : TypeId} (hB : BookAt w Bk rv) (ho : w.ownsRow (Bk + 1) e 1 rv K Vs) {xs : List Value} {o : Obj} (hown : w7.ownsRow (Bk + 1) e 1 v3 (K + 1) xs)
    (hc : (v3.ownBlock = rv.ownBlock ∧ rv.ownBlock ≠ none ∧ (w.alloc o).grownBy w7 rv.ownBlock) ∨ (v3.ownBlock = some (w.alloc o).heap.size ∧ (w.alloc o).grownBy w7 none)) :
    w7.cell? ⟨Bk, 5, none⟩ = some rv ∧ w7.frozen? ⟨Bk, 5, none⟩ = false ∧ Hid (BookAt (w7.setCell ⟨Bk, 5, none⟩ v3) Bk v3) ∧ Hid ((w7.setCell ⟨Bk, 5, none⟩ v3).ownsRow (Bk + 1) e 1 v3 (K + 1) xs) ∧ Hid (Below Bk w (w7.setCell ⟨Bk, 5, none⟩ v3)) := by
  have lt := lt_book hB
  have hr : ∀ b, rv.ownBlock = some b → Bk + 1 ≤ b := fun b e => (ho.lt b e).1
  have grw : ∃ r, (w.alloc o).grownBy w7 r ∧ ∀ b, r = some b → Bk + 1 ≤ b := by
    rcases hc with ⟨e1, e2, hg⟩ | ⟨e1, hg⟩
    · exact ⟨_, hg, hr⟩
    · exact ⟨_, hg, fun b e => by cases e⟩
  obtain ⟨r, hg, hgr⟩ := grw
  have same : ∀ k, k ≤ Bk → w7.heap[k]? = w.heap[k]? := fun k hk => (hg.block k (by simp; omega) (fun e => by have := hgr k e.symm; omega)).trans ((single w _).block k (by omega))
  have B7 := hB.past (same Bk (Nat.le_refl _))
  have v3b : v3.ownBlock ≠ some Bk := fun e => by have := (hown.lt Bk e).1; omega
  exact ⟨B7.c5, B7.free 5, book_set B7 v3, ownsRow_setCell_other (a := ⟨Bk, 5, none⟩) hown v3b v3, Below.setCell (p := ⟨Bk, 5, none⟩) (⟨hg.os, hg.tape, hg.output, by have := hg.size; simp at this; omega, fun k hk => same k (by omega)⟩ : Below Bk w w7) (Nat.le_refl _) v3⟩
set_option maxHeartbeats 1000000 in
theorem takeRats_any (Bk K ln cap : Nat) (rv : Value) (ad : Option Addr) (Vs : List Value) (w : World) (hB : BookAt w Bk rv) (ho : w.ownsRow (Bk + 1) 22 1 rv K Vs) (hK : K ≤ 1000000) :
    Calls Tryz.prog 18 #[.pointer (some ⟨Bk, 0, none⟩), .slice ad ln cap] w fun e w' => (∃ v, e = .returned v) ∧ ∃ rv', BookAt w' Bk rv' ∧ w'.ownsRow (Bk + 1) 22 1 rv' (K + 1) (Vs ++ [.slice ad ln cap]) ∧ Below Bk w w' := by
  obtain ⟨j0, hj, hy0, hy1, hy2⟩ := info_parts info_rats
  have c5 := hB.c5
  have hs : Bk + 1 ≤ w.heap.size := lt_book hB
  have HB := hideD hB
  have HO := hideD ho
  clear hB ho
  go_enter Tryz.func18, Tryz.ntmps18
  go_wp2_with (at_builtin; refine wp_app_two _ rfl _ _ 46 rfl (Bk + 1) 22 j0 (.slice none 0 0) 1 24 Tryz.underlying46 hj hy0 hy1 hy2 rfl (by decide) rv K Vs rfl (HO.out.alloc _) _ 1 [.slice ad ln cap] rfl rfl (cell_one_new _ _ _) (by simp [Value.oneCell']) (by unfold maxLen; omega) (by omega) (Nat.le_trans hs (by simp)) ?_; intro v3 w7 hown hc; obtain ⟨g3, c3, e3⟩ := own_some hown (Nat.succ_pos _); subst e3; obtain ⟨d5, f5, h1, h2, h3⟩ := take_step HB.out HO.out hown hc; clear hown hc)
  go_end0
  exact ⟨⟨_, rfl⟩, _, h1.out, h2.out, h3.out⟩
theorem KeepS.set {S : Nat → Prop} {w W : World} {b : Nat} (h : KeepS S w W) (hs : S b) (k : Nat) (v : Value) : KeepS S w (W.setCell ⟨b, k, none⟩ v) :=
  h.grown (grow_set W b k v) (fun x e => by injection e with e; subst e; exact .inl hs)
theorem KeepS.wide {S T : Nat → Prop} {w W : World} (h : KeepS S w W) (hst : ∀ k, S k → T k) : KeepS T w W := ⟨h.os, h.tape, h.output, h.size, fun k hk hs => h.block k hk (fun x => hs (hst k x))⟩
set_option maxHeartbeats 2000000 in
theorem alone_any (base N Bk : Nat) (V : Nat → Value) (ln O : Nat → Nat) (rv : Value) (Vs : List Value) (w : World) (hL : Lists base N V ln O) (hbase : base ≤ w.heap.size) (hB : BookAt w Bk rv) (ho : w.ownsRow (Bk + 1) 22 1 rv N Vs) (hV : ∀ i, i < N → Vs[i]? = some (V i))
    (hlt : ∀ j h, j < N → (V j).ownBlock = some h → h < Bk) (hown : ∀ j, j < N → ∃ xs, OwnR w base (V j) (ln j) xs) :
    Calls Tryz.prog 19 #[.pointer (some ⟨Bk, 0, none⟩)] w fun e w' => e = .returned (.bool true) ∧ KeepS (fun h => SB N V h ∨ h = Bk) w w' := by
  obtain ⟨ad, cap, rfl, had⟩ := own_isS ho
  have nbk : ¬ SB N V Bk := fun ⟨j, hj, e⟩ => by have := hlt j Bk hj e; omega
  have hrow : ∀ i, i < N → ∃ R, ad = some ⟨R, 0, none⟩ ∧ ¬ SB N V R ∧ w.cell? ⟨R, i, none⟩ = some (V i) := fun i hi => by
    obtain ⟨R, cR, e⟩ := own_some ho (by omega)
    injection e with e1 e2 e3
    subst e1
    refine ⟨R, rfl, fun ⟨j, hj, e⟩ => ?_, ?_⟩
    · have a1 := hlt j R hj e
      have a2 := (ho.lt R rfl).1
      omega
    · rw [ho.cellAt i (by omega)]
      exact hV i hi
  have HR := hideD (aloneRats_any base N Bk cap V ln O ad w hL hbase hB.c5 nbk hrow hown)
  have HB := hideD hB
  have HN := hideD nbk
  have H0 := hideD (fun W (h : BookAt W Bk (.slice ad N cap)) => aloneBytes_nil Bk W h.c0)
  have H1 := hideD (fun W (h : BookAt W Bk (.slice ad N cap)) => aloneTexts_nil Bk W h.c1)
  have H2 := hideD (fun W (h : BookAt W Bk (.slice ad N cap)) => aloneInts_nil Bk W h.c2)
  have H3 := hideD (fun W (h : BookAt W Bk (.slice ad N cap)) => aloneInt64s_nil Bk W h.c3)
  have H4 := hideD (fun W (h : BookAt W Bk (.slice ad N cap)) => aloneBounds_nil Bk W h.c4)
  have H6 := hideD (fun W (h : BookAt W Bk (.slice ad N cap)) => aloneLimits_nil Bk W h.c6)
  have H7 := hideD (fun W (h : BookAt W Bk (.slice ad N cap)) => aloneGuards_nil Bk W h.c7)
  have H8 := hideD (fun W (h : BookAt W Bk (.slice ad N cap)) => aloneNodes_nil Bk W h.c8)
  have H9 := hideD (fun W (h : BookAt W Bk (.slice ad N cap)) => aloneMoves_nil Bk W h.c9)
  have H10 := hideD (fun W (h : BookAt W Bk (.slice ad N cap)) => aloneDiffs_nil Bk W h.c10)
  have H11 := hideD (fun W (h : BookAt W Bk (.slice ad N cap)) => aloneSteps_nil Bk W h.c11)
  have H12 := hideD (fun W (h : BookAt W Bk (.slice ad N cap)) => aloneAts_nil Bk W h.c12)
  have H13 := hideD (fun W (h : BookAt W Bk (.slice ad N cap)) => aloneBools_nil Bk W h.c13)
  clear hL hbase hB ho hV hlt hown had nbk hrow
  go_enter Tryz.func19, Tryz.ntmps19
  go_wp2_with fail
  refine (H0.out _ HB.out).mono ?_
  rintro e w20 ⟨rfl, ew0⟩
  subst ew0
  go_wp2_with fail
  refine (H1.out _ HB.out).mono ?_
  rintro e w21 ⟨rfl, ew1⟩
  subst ew1
  go_wp2_with fail
  refine (H2.out _ HB.out).mono ?_
  rintro e w22 ⟨rfl, ew2⟩
  subst ew2
  go_wp2_with fail
  refine (H3.out _ HB.out).mono ?_
  rintro e w23 ⟨rfl, ew3⟩
  subst ew3
  go_wp2_with fail
  refine (H4.out _ HB.out).mono ?_
  rintro e w24 ⟨rfl, ew4⟩
  subst ew4
  go_wp2_with fail
  refine HR.out.mono ?_
  rintro e w1 ⟨rfl, kp⟩
  have BK1 := hideD (HB.out.past (kp.block Bk (lt_book HB.out) HN.out))
  have KP := hideD (kp.wide (T := fun h => SB N V h ∨ h = Bk) (fun k hk => .inl hk))
  clear kp
  go_wp2_with fail
  refine (H6.out _ BK1.out).mono ?_
  rintro e w26 ⟨rfl, ew6⟩
  subst ew6
  go_wp2_with fail
  refine (H7.out _ BK1.out).mono ?_
  rintro e w27 ⟨rfl, ew7⟩
  subst ew7
  go_wp2_with fail
  refine (H8.out _ BK1.out).mono ?_
  rintro e w28 ⟨rfl, ew8⟩
  subst ew8
  go_wp2_with fail
  refine (H9.out _ BK1.out).mono ?_
  rintro e w29 ⟨rfl, ew9⟩
  subst ew9
  go_wp2_with fail
  refine (H10.out _ BK1.out).mono ?_
  rintro e w30 ⟨rfl, ew10⟩
  subst ew10
  go_wp2_with fail
  refine (H11.out _ BK1.out).mono ?_
  rintro e w31 ⟨rfl, ew11⟩
  subst ew11
  go_wp2_with fail
  refine (H12.out _ BK1.out).mono ?_
  rintro e w32 ⟨rfl, ew12⟩
  subst ew12
  go_wp2_with fail
  refine (H13.out _ BK1.out).mono ?_
  rintro e w33 ⟨rfl, ew13⟩
  subst ew13
  have BB := BK1.out
  have c0 := BB.c0
  have f0 := BB.free 0
  have c1 := BB.c1
  have f1 := BB.free 1
  have c2 := BB.c2
  have f2 := BB.free 2
  have c3 := BB.c3
  have f3 := BB.free 3
  have c4 := BB.c4
  have f4 := BB.free 4
  have c5 := BB.c5
  have f5 := BB.free 5
  have c6 := BB.c6
  have f6 := BB.free 6
  have c7 := BB.c7
  have f7 := BB.free 7
  have c8 := BB.c8
  have f8 := BB.free 8
  have c9 := BB.c9
  have f9 := BB.free 9
  have c10 := BB.c10
  have f10 := BB.free 10
  have c11 := BB.c11
  have f11 := BB.free 11
  have c12 := BB.c12
  have f12 := BB.free 12
  have c13 := BB.c13
  have f13 := BB.free 13
  clear BB
  go_wp2_with fail
  go_ret
  exact ⟨rfl, (KeepS.set (KeepS.set (KeepS.set (KeepS.set (KeepS.set (KeepS.set (KeepS.set (KeepS.set (KeepS.set (KeepS.set (KeepS.set (KeepS.set (KeepS.set (KeepS.set KP.out (.inr rfl) _ _) (.inr rfl) _ _) (.inr rfl) _ _) (.inr rfl) _ _) (.inr rfl) _ _) (.inr rfl) _ _) (.inr rfl) _ _) (.inr rfl) _ _) (.inr rfl) _ _) (.inr rfl) _ _) (.inr rfl) _ _) (.inr rfl) _ _) (.inr rfl) _ _) (.inr rfl) _ _)⟩
end Go.Proofs.YtondgencdcimjaaGreat
