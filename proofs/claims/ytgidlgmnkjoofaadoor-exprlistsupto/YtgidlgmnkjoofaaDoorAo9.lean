/-
  Book: lists kept; lists of no elements; Alone, where numbers and nodes are kept.
-/
import Derived.Test.YtgidlgmnkjoofaaDoorAoN
import Derived.Test.YtgidlgmnkjoofaaDoorAoI
import Derived.RangeFuncSeq
namespace Go.Proofs.YtgidlgmnkjoofaaDoor
open Go.RowKit
set_option linter.unusedVariables false
set_option maxRecDepth 100000
theorem aloneBytes_nil (Bk : Nat) (w : World) (h : w.cell? ⟨Bk, 0, none⟩ = some (.slice none 0 0)) : Calls Tryd.prog 22 #[.pointer (some ⟨Bk, 0, none⟩)] w fun e w' => e = .returned (.bool true) ∧ w' = w := by
  go_enter Tryd.func22, Tryd.ntmps22
  go_wp2_with fail
  go_loopw [3] (fun s wr => s = .int .i64 0 ∧ wr = w) (fun _ _ => 0)
  case atStart => exact ⟨rfl, rfl⟩
  case round =>
    obtain ⟨rfl, rfl⟩ := hrel
    go_wp2_with fail
    go_loopw [5, 6] (fun a s wq => a = .slice none 0 0 ∧ s = .int .i64 0 ∧ wq = wr) (fun _ _ _ => 0)
    case atStart => exact ⟨rfl, rfl, rfl⟩
    case round =>
      obtain ⟨rfl, rfl, rfl⟩ := hrel
      go_wp2_with fail
      go_loopw [9] (fun s wq => s = .int .i64 0 ∧ wq = wr) (fun _ _ => 0)
      case atStart => exact ⟨rfl, rfl⟩
      case round =>
        obtain ⟨rfl, rfl⟩ := hrel
        go_wp2_with fail
        go_ret
        exact ⟨rfl, rfl⟩
theorem aloneTexts_nil (Bk : Nat) (w : World) (h : w.cell? ⟨Bk, 1, none⟩ = some (.slice none 0 0)) : Calls Tryd.prog 23 #[.pointer (some ⟨Bk, 0, none⟩)] w fun e w' => e = .returned (.bool true) ∧ w' = w := by
  go_enter Tryd.func23, Tryd.ntmps23
  go_wp2_with fail
  go_loopw [3] (fun s wr => s = .int .i64 0 ∧ wr = w) (fun _ _ => 0)
  case atStart => exact ⟨rfl, rfl⟩
  case round =>
    obtain ⟨rfl, rfl⟩ := hrel
    go_wp2_with fail
    go_loopw [5, 6] (fun a s wq => a = .slice none 0 0 ∧ s = .int .i64 0 ∧ wq = wr) (fun _ _ _ => 0)
    case atStart => exact ⟨rfl, rfl, rfl⟩
    case round =>
      obtain ⟨rfl, rfl, rfl⟩ := hrel
      go_wp2_with fail
      go_loopw [9] (fun s wq => s = .int .i64 0 ∧ wq = wr) (fun _ _ => 0)
      case atStart => exact ⟨rfl, rfl⟩
      case round =>
        obtain ⟨rfl, rfl⟩ := hrel
        go_wp2_with fail
        go_ret
        exact ⟨rfl, rfl⟩
theorem aloneInt64s_nil (Bk : Nat) (w : World) (h : w.cell? ⟨Bk, 3, none⟩ = some (.slice none 0 0)) : Calls Tryd.prog 25 #[.pointer (some ⟨Bk, 0, none⟩)] w fun e w' => e = .returned (.bool true) ∧ w' = w := by
  go_enter Tryd.func25, Tryd.ntmps25
  go_wp2_with fail
  go_loopw [3] (fun s wr => s = .int .i64 0 ∧ wr = w) (fun _ _ => 0)
  case atStart => exact ⟨rfl, rfl⟩
  case round =>
    obtain ⟨rfl, rfl⟩ := hrel
    go_wp2_with fail
    go_loopw [5, 6] (fun a s wq => a = .slice none 0 0 ∧ s = .int .i64 0 ∧ wq = wr) (fun _ _ _ => 0)
    case atStart => exact ⟨rfl, rfl, rfl⟩
    case round =>
      obtain ⟨rfl, rfl, rfl⟩ := hrel
      go_wp2_with fail
      go_loopw [9] (fun s wq => s = .int .i64 0 ∧ wq = wr) (fun _ _ => 0)
      case atStart => exact ⟨rfl, rfl⟩
      case round =>
        obtain ⟨rfl, rfl⟩ := hrel
        go_wp2_with fail
        go_ret
        exact ⟨rfl, rfl⟩
theorem aloneBounds_nil (Bk : Nat) (w : World) (h : w.cell? ⟨Bk, 4, none⟩ = some (.slice none 0 0)) : Calls Tryd.prog 26 #[.pointer (some ⟨Bk, 0, none⟩)] w fun e w' => e = .returned (.bool true) ∧ w' = w := by
  go_enter Tryd.func26, Tryd.ntmps26
  go_wp2_with fail
  go_loopw [3] (fun s wr => s = .int .i64 0 ∧ wr = w) (fun _ _ => 0)
  case atStart => exact ⟨rfl, rfl⟩
  case round =>
    obtain ⟨rfl, rfl⟩ := hrel
    go_wp2_with fail
    go_loopw [5, 6] (fun a s wq => a = .slice none 0 0 ∧ s = .int .i64 0 ∧ wq = wr) (fun _ _ _ => 0)
    case atStart => exact ⟨rfl, rfl, rfl⟩
    case round =>
      obtain ⟨rfl, rfl, rfl⟩ := hrel
      go_wp2_with fail
      go_loopw [9] (fun s wq => s = .int .i64 0 ∧ wq = wr) (fun _ _ => 0)
      case atStart => exact ⟨rfl, rfl⟩
      case round =>
        obtain ⟨rfl, rfl⟩ := hrel
        go_wp2_with fail
        go_ret
        exact ⟨rfl, rfl⟩
theorem aloneRats_nil (Bk : Nat) (w : World) (h : w.cell? ⟨Bk, 5, none⟩ = some (.slice none 0 0)) : Calls Tryd.prog 27 #[.pointer (some ⟨Bk, 0, none⟩)] w fun e w' => e = .returned (.bool true) ∧ w' = w := by
  go_enter Tryd.func27, Tryd.ntmps27
  go_wp2_with fail
  go_loopw [3] (fun s wr => s = .int .i64 0 ∧ wr = w) (fun _ _ => 0)
  case atStart => exact ⟨rfl, rfl⟩
  case round =>
    obtain ⟨rfl, rfl⟩ := hrel
    go_wp2_with fail
    go_loopw [5, 6] (fun a s wq => a = .slice none 0 0 ∧ s = .int .i64 0 ∧ wq = wr) (fun _ _ _ => 0)
    case atStart => exact ⟨rfl, rfl, rfl⟩
    case round =>
      obtain ⟨rfl, rfl, rfl⟩ := hrel
      go_wp2_with fail
      go_loopw [9] (fun s wq => s = .int .i64 0 ∧ wq = wr) (fun _ _ => 0)
      case atStart => exact ⟨rfl, rfl⟩
      case round =>
        obtain ⟨rfl, rfl⟩ := hrel
        go_wp2_with fail
        go_ret
        exact ⟨rfl, rfl⟩
theorem aloneLimits_nil (Bk : Nat) (w : World) (h : w.cell? ⟨Bk, 6, none⟩ = some (.slice none 0 0)) : Calls Tryd.prog 28 #[.pointer (some ⟨Bk, 0, none⟩)] w fun e w' => e = .returned (.bool true) ∧ w' = w := by
  go_enter Tryd.func28, Tryd.ntmps28
  go_wp2_with fail
  go_loopw [3] (fun s wr => s = .int .i64 0 ∧ wr = w) (fun _ _ => 0)
  case atStart => exact ⟨rfl, rfl⟩
  case round =>
    obtain ⟨rfl, rfl⟩ := hrel
    go_wp2_with fail
    go_loopw [5, 6] (fun a s wq => a = .slice none 0 0 ∧ s = .int .i64 0 ∧ wq = wr) (fun _ _ _ => 0)
    case atStart => exact ⟨rfl, rfl, rfl⟩
    case round =>
      obtain ⟨rfl, rfl, rfl⟩ := hrel
      go_wp2_with fail
      go_loopw [9] (fun s wq => s = .int .i64 0 ∧ wq = wr) (fun _ _ => 0)
      case atStart => exact ⟨rfl, rfl⟩
      case round =>
        obtain ⟨rfl, rfl⟩ := hrel
        go_wp2_with fail
        go_ret
        exact ⟨rfl, rfl⟩
theorem aloneGuards_nil (Bk : Nat) (w : World) (h : w.cell? ⟨Bk, 7, none⟩ = some (.slice none 0 0)) : Calls Tryd.prog 29 #[.pointer (some ⟨Bk, 0, none⟩)] w fun e w' => e = .returned (.bool true) ∧ w' = w := by
  go_enter Tryd.func29, Tryd.ntmps29
  go_wp2_with fail
  go_loopw [3] (fun s wr => s = .int .i64 0 ∧ wr = w) (fun _ _ => 0)
  case atStart => exact ⟨rfl, rfl⟩
  case round =>
    obtain ⟨rfl, rfl⟩ := hrel
    go_wp2_with fail
    go_loopw [5, 6] (fun a s wq => a = .slice none 0 0 ∧ s = .int .i64 0 ∧ wq = wr) (fun _ _ _ => 0)
    case atStart => exact ⟨rfl, rfl, rfl⟩
    case round =>
      obtain ⟨rfl, rfl, rfl⟩ := hrel
      go_wp2_with fail
      go_loopw [9] (fun s wq => s = .int .i64 0 ∧ wq = wr) (fun _ _ => 0)
      case atStart => exact ⟨rfl, rfl⟩
      case round =>
        obtain ⟨rfl, rfl⟩ := hrel
        go_wp2_with fail
        go_ret
        exact ⟨rfl, rfl⟩
theorem aloneMoves_nil (Bk : Nat) (w : World) (h : w.cell? ⟨Bk, 9, none⟩ = some (.slice none 0 0)) : Calls Tryd.prog 31 #[.pointer (some ⟨Bk, 0, none⟩)] w fun e w' => e = .returned (.bool true) ∧ w' = w := by
  go_enter Tryd.func31, Tryd.ntmps31
  go_wp2_with fail
  go_loopw [3] (fun s wr => s = .int .i64 0 ∧ wr = w) (fun _ _ => 0)
  case atStart => exact ⟨rfl, rfl⟩
  case round =>
    obtain ⟨rfl, rfl⟩ := hrel
    go_wp2_with fail
    go_loopw [5, 6] (fun a s wq => a = .slice none 0 0 ∧ s = .int .i64 0 ∧ wq = wr) (fun _ _ _ => 0)
    case atStart => exact ⟨rfl, rfl, rfl⟩
    case round =>
      obtain ⟨rfl, rfl, rfl⟩ := hrel
      go_wp2_with fail
      go_loopw [9] (fun s wq => s = .int .i64 0 ∧ wq = wr) (fun _ _ => 0)
      case atStart => exact ⟨rfl, rfl⟩
      case round =>
        obtain ⟨rfl, rfl⟩ := hrel
        go_wp2_with fail
        go_ret
        exact ⟨rfl, rfl⟩
theorem aloneDiffs_nil (Bk : Nat) (w : World) (h : w.cell? ⟨Bk, 10, none⟩ = some (.slice none 0 0)) : Calls Tryd.prog 32 #[.pointer (some ⟨Bk, 0, none⟩)] w fun e w' => e = .returned (.bool true) ∧ w' = w := by
  go_enter Tryd.func32, Tryd.ntmps32
  go_wp2_with fail
  go_loopw [3] (fun s wr => s = .int .i64 0 ∧ wr = w) (fun _ _ => 0)
  case atStart => exact ⟨rfl, rfl⟩
  case round =>
    obtain ⟨rfl, rfl⟩ := hrel
    go_wp2_with fail
    go_loopw [5, 6] (fun a s wq => a = .slice none 0 0 ∧ s = .int .i64 0 ∧ wq = wr) (fun _ _ _ => 0)
    case atStart => exact ⟨rfl, rfl, rfl⟩
    case round =>
      obtain ⟨rfl, rfl, rfl⟩ := hrel
      go_wp2_with fail
      go_loopw [9] (fun s wq => s = .int .i64 0 ∧ wq = wr) (fun _ _ => 0)
      case atStart => exact ⟨rfl, rfl⟩
      case round =>
        obtain ⟨rfl, rfl⟩ := hrel
        go_wp2_with fail
        go_ret
        exact ⟨rfl, rfl⟩
theorem aloneSteps_nil (Bk : Nat) (w : World) (h : w.cell? ⟨Bk, 11, none⟩ = some (.slice none 0 0)) : Calls Tryd.prog 33 #[.pointer (some ⟨Bk, 0, none⟩)] w fun e w' => e = .returned (.bool true) ∧ w' = w := by
  go_enter Tryd.func33, Tryd.ntmps33
  go_wp2_with fail
  go_loopw [3] (fun s wr => s = .int .i64 0 ∧ wr = w) (fun _ _ => 0)
  case atStart => exact ⟨rfl, rfl⟩
  case round =>
    obtain ⟨rfl, rfl⟩ := hrel
    go_wp2_with fail
    go_loopw [5, 6] (fun a s wq => a = .slice none 0 0 ∧ s = .int .i64 0 ∧ wq = wr) (fun _ _ _ => 0)
    case atStart => exact ⟨rfl, rfl, rfl⟩
    case round =>
      obtain ⟨rfl, rfl, rfl⟩ := hrel
      go_wp2_with fail
      go_loopw [9] (fun s wq => s = .int .i64 0 ∧ wq = wr) (fun _ _ => 0)
      case atStart => exact ⟨rfl, rfl⟩
      case round =>
        obtain ⟨rfl, rfl⟩ := hrel
        go_wp2_with fail
        go_ret
        exact ⟨rfl, rfl⟩
theorem aloneAts_nil (Bk : Nat) (w : World) (h : w.cell? ⟨Bk, 12, none⟩ = some (.slice none 0 0)) : Calls Tryd.prog 34 #[.pointer (some ⟨Bk, 0, none⟩)] w fun e w' => e = .returned (.bool true) ∧ w' = w := by
  go_enter Tryd.func34, Tryd.ntmps34
  go_wp2_with fail
  go_loopw [3] (fun s wr => s = .int .i64 0 ∧ wr = w) (fun _ _ => 0)
  case atStart => exact ⟨rfl, rfl⟩
  case round =>
    obtain ⟨rfl, rfl⟩ := hrel
    go_wp2_with fail
    go_loopw [5, 6] (fun a s wq => a = .slice none 0 0 ∧ s = .int .i64 0 ∧ wq = wr) (fun _ _ _ => 0)
    case atStart => exact ⟨rfl, rfl, rfl⟩
    case round =>
      obtain ⟨rfl, rfl, rfl⟩ := hrel
      go_wp2_with fail
      go_loopw [9] (fun s wq => s = .int .i64 0 ∧ wq = wr) (fun _ _ => 0)
      case atStart => exact ⟨rfl, rfl⟩
      case round =>
        obtain ⟨rfl, rfl⟩ := hrel
        go_wp2_with fail
        go_ret
        exact ⟨rfl, rfl⟩
theorem aloneBools_nil (Bk : Nat) (w : World) (h : w.cell? ⟨Bk, 13, none⟩ = some (.slice none 0 0)) : Calls Tryd.prog 35 #[.pointer (some ⟨Bk, 0, none⟩)] w fun e w' => e = .returned (.bool true) ∧ w' = w := by
  go_enter Tryd.func35, Tryd.ntmps35
  go_wp2_with fail
  go_loopw [3] (fun s wr => s = .int .i64 0 ∧ wr = w) (fun _ _ => 0)
  case atStart => exact ⟨rfl, rfl⟩
  case round =>
    obtain ⟨rfl, rfl⟩ := hrel
    go_wp2_with fail
    go_loopw [5, 6] (fun a s wq => a = .slice none 0 0 ∧ s = .int .i64 0 ∧ wq = wr) (fun _ _ _ => 0)
    case atStart => exact ⟨rfl, rfl, rfl⟩
    case round =>
      obtain ⟨rfl, rfl, rfl⟩ := hrel
      go_wp2_with fail
      go_loopw [9] (fun s wq => s = .int .i64 0 ∧ wq = wr) (fun _ _ => 0)
      case atStart => exact ⟨rfl, rfl⟩
      case round =>
        obtain ⟨rfl, rfl⟩ := hrel
        go_wp2_with fail
        go_ret
        exact ⟨rfl, rfl⟩
/-- A book. -/
def BookF (W : World) (Bk : Nat) (f : Nat → Value) : Prop := W.heap[Bk]? = some (.cells #[f 0, f 1, f 2, f 3, f 4, f 5, f 6, f 7, f 8, f 9, f 10, f 11, f 12, f 13] 48)
theorem BookF.past {W W' : World} {Bk : Nat} {f : Nat → Value} (h : BookF W Bk f) (hb : W'.heap[Bk]? = W.heap[Bk]?) : BookF W' Bk f := hb.trans h
theorem BookF.free {W : World} {Bk : Nat} {f : Nat → Value} (h : BookF W Bk f) (k : Nat) : W.frozen? ⟨Bk, k, none⟩ = false := by
  unfold BookF at h
  simp [World.frozen?, h]
theorem BookF.lt {W : World} {Bk : Nat} {f : Nat → Value} (h : BookF W Bk f) : Bk < W.heap.size := (Array.getElem?_eq_some_iff.1 h).1
theorem BookF.c0 {W : World} {Bk : Nat} {f : Nat → Value} (h : BookF W Bk f) : W.cell? ⟨Bk, 0, none⟩ = some (f 0) := by
  unfold BookF at h
  simp [World.cell?, h]
theorem BookF.c1 {W : World} {Bk : Nat} {f : Nat → Value} (h : BookF W Bk f) : W.cell? ⟨Bk, 1, none⟩ = some (f 1) := by
  unfold BookF at h
  simp [World.cell?, h]
theorem BookF.c2 {W : World} {Bk : Nat} {f : Nat → Value} (h : BookF W Bk f) : W.cell? ⟨Bk, 2, none⟩ = some (f 2) := by
  unfold BookF at h
  simp [World.cell?, h]
theorem BookF.c3 {W : World} {Bk : Nat} {f : Nat → Value} (h : BookF W Bk f) : W.cell? ⟨Bk, 3, none⟩ = some (f 3) := by
  unfold BookF at h
  simp [World.cell?, h]
theorem BookF.c4 {W : World} {Bk : Nat} {f : Nat → Value} (h : BookF W Bk f) : W.cell? ⟨Bk, 4, none⟩ = some (f 4) := by
  unfold BookF at h
  simp [World.cell?, h]
theorem BookF.c5 {W : World} {Bk : Nat} {f : Nat → Value} (h : BookF W Bk f) : W.cell? ⟨Bk, 5, none⟩ = some (f 5) := by
  unfold BookF at h
  simp [World.cell?, h]
theorem BookF.c6 {W : World} {Bk : Nat} {f : Nat → Value} (h : BookF W Bk f) : W.cell? ⟨Bk, 6, none⟩ = some (f 6) := by
  unfold BookF at h
  simp [World.cell?, h]
theorem BookF.c7 {W : World} {Bk : Nat} {f : Nat → Value} (h : BookF W Bk f) : W.cell? ⟨Bk, 7, none⟩ = some (f 7) := by
  unfold BookF at h
  simp [World.cell?, h]
theorem BookF.c8 {W : World} {Bk : Nat} {f : Nat → Value} (h : BookF W Bk f) : W.cell? ⟨Bk, 8, none⟩ = some (f 8) := by
  unfold BookF at h
  simp [World.cell?, h]
theorem BookF.c9 {W : World} {Bk : Nat} {f : Nat → Value} (h : BookF W Bk f) : W.cell? ⟨Bk, 9, none⟩ = some (f 9) := by
  unfold BookF at h
  simp [World.cell?, h]
theorem BookF.c10 {W : World} {Bk : Nat} {f : Nat → Value} (h : BookF W Bk f) : W.cell? ⟨Bk, 10, none⟩ = some (f 10) := by
  unfold BookF at h
  simp [World.cell?, h]
theorem BookF.c11 {W : World} {Bk : Nat} {f : Nat → Value} (h : BookF W Bk f) : W.cell? ⟨Bk, 11, none⟩ = some (f 11) := by
  unfold BookF at h
  simp [World.cell?, h]
theorem BookF.c12 {W : World} {Bk : Nat} {f : Nat → Value} (h : BookF W Bk f) : W.cell? ⟨Bk, 12, none⟩ = some (f 12) := by
  unfold BookF at h
  simp [World.cell?, h]
theorem BookF.c13 {W : World} {Bk : Nat} {f : Nat → Value} (h : BookF W Bk f) : W.cell? ⟨Bk, 13, none⟩ = some (f 13) := by
  unfold BookF at h
  simp [World.cell?, h]
theorem set_objF {W : World} {B k : Nat} {cs : Array Value} {t : TypeId} (h : W.heap[B]? = some (.cells cs t)) (v : Value) : (W.setCell ⟨B, k, none⟩ v).heap[B]? = some (.cells (cs.setIfInBounds k v) t) := by
  unfold World.setCell
  simp [Array.getElem?_modify, h]
theorem grow_setF (W : World) (b k : Nat) (v : Value) : W.grownBy (W.setCell ⟨b, k, none⟩ v) (some b) :=
  ⟨rfl, rfl, rfl, (KeepsWalks.setCell W _ v).size, fun j _ hk => Below.heap_setCell _ _ _ j (fun e => hk (by rw [e]))⟩
theorem BookF.set2 {W : World} {Bk : Nat} {f : Nat → Value} (h : BookF W Bk f) (v : Value) : BookF (W.setCell ⟨Bk, 2, none⟩ v) Bk (fun k => if k = 2 then v else f k) := set_objF (k := 2) h v
theorem BookF.set8 {W : World} {Bk : Nat} {f : Nat → Value} (h : BookF W Bk f) (v : Value) : BookF (W.setCell ⟨Bk, 8, none⟩ v) Bk (fun k => if k = 8 then v else f k) := set_objF (k := 8) h v
theorem KeepS.own {S : Nat → Prop} {w W : World} {base e s n : Nat} {v : Value} {xs : List Value} (h : KeepS S w W) (k : w.ownsRow base e s v n xs) (hs : ∀ b, v.ownBlock = some b → ¬ S b) : W.ownsRow base e s v n xs := by
  have lt := k.lt
  refine ⟨k.1, ?_⟩
  rcases k.2 with q | ⟨g, cap, cur, rfl, a, b, c⟩
  · exact .inl q
  · exact .inr ⟨g, cap, cur, rfl, a, by rw [h.block g (lt g rfl).2 (hs g rfl)]; exact b, c⟩
theorem KeepS.set {S : Nat → Prop} {w W : World} {b : Nat} (h : KeepS S w W) (hs : S b) (k : Nat) (v : Value) : KeepS S w (W.setCell ⟨b, k, none⟩ v) :=
  h.grown (grow_setF W b k v) (fun x e => by injection e with e; subst e; exact .inl hs)
theorem KeepS.wide {S T : Nat → Prop} {w W : World} (h : KeepS S w W) (hst : ∀ k, S k → T k) : KeepS T w W := ⟨h.os, h.tape, h.output, h.size, fun k hk hs => h.block k hk (fun x => hs (hst k x))⟩
/-- Lists of one kind that a book keeps. -/
structure HandK (w : World) (base Bk e es size N : Nat) (V : Nat → Value) (ln O : Nat → Nat) (rv : Value) (Vs : List Value) : Prop where
  L : Lists base N V ln O
  row : w.ownsRow (Bk + 1) es 1 rv N Vs
  at_ : ∀ i, i < N → Vs[i]? = some (V i)
  ne_ : ∀ j h, j < N → (V j).ownBlock = some h → h ≠ Bk
  own : ∀ j, j < N → ∃ xs, w.ownsRow base e size (V j) (ln j) xs
theorem HandK.off {w : World} {base Bk e es size N : Nat} {V : Nat → Value} {ln O : Nat → Nat} {rv : Value} {Vs : List Value} (h : HandK w base Bk e es size N V ln O rv Vs) : ¬ SB N V Bk := fun ⟨j, hj, e⟩ => h.ne_ j Bk hj e rfl
theorem HandK.open_ {w : World} {base Bk e es size N : Nat} {V : Nat → Value} {ln O : Nat → Nat} {rv : Value} {Vs : List Value} (h : HandK w base Bk e es size N V ln O rv Vs) (ne : es ≠ e) :
    ∃ ad cap, rv = .slice ad N cap ∧ ∀ i, i < N → ∃ R, ad = some ⟨R, 0, none⟩ ∧ ¬ SB N V R ∧ w.cell? ⟨R, i, none⟩ = some (V i) := by
  have ho := h.row
  obtain ⟨ad, cap, rfl, had⟩ := own_isS ho
  refine ⟨ad, cap, rfl, fun i hi => ?_⟩
  obtain ⟨R, cR, e⟩ := own_some ho (by omega)
  injection e with e1 e2 e3
  subst e1
  refine ⟨R, rfl, fun ⟨j, hj, e⟩ => ?_, ?_⟩
  · obtain ⟨xs, hx⟩ := h.own j hj
    rcases own_types ho hx ne with q | q
    · cases q
    · exact q e.symm
  · rw [ho.cellAt i (by omega)]
    exact h.at_ i hi
theorem HandK.kept {w W : World} {base Bk e es size N e' es' size' N' : Nat} {V V' : Nat → Value} {ln O ln' O' : Nat → Nat} {rv rv' : Value} {Vs Vs' : List Value} (h : HandK w base Bk e es size N V ln O rv Vs) (h' : HandK w base Bk e' es' size' N' V' ln' O' rv' Vs') (ne : e ≠ e') (ne2 : es ≠ e') (k : KeepS (SB N' V') w W) : HandK W base Bk e es size N V ln O rv Vs := by
  refine ⟨h.L, k.own h.row (fun b eb => ?_), h.at_, h.ne_, fun j hj => ?_⟩
  · rintro ⟨j, hj, ej⟩
    obtain ⟨ys, hy⟩ := h'.own j hj
    rcases own_types h.row hy ne2 with q | q
    · rw [q] at eb; cases eb
    · exact q (eb.trans ej.symm)
  · obtain ⟨xs, hx⟩ := h.own j hj
    refine ⟨xs, k.own hx fun b eb => ?_⟩
    rintro ⟨i, hi, ei⟩
    obtain ⟨ys, hy⟩ := h'.own i hi
    rcases own_types hx hy ne with q | q
    · rw [q] at eb; cases eb
    · exact q (eb.trans ei.symm)
set_option maxHeartbeats 2000000 in
theorem alone_in (base Bk : Nat) (f : Nat → Value) (w : World) (hbase : base ≤ w.heap.size) (hB : BookF w Bk f) (hf : ∀ k, k < 14 → k ≠ 2 → k ≠ 8 → f k = .slice none 0 0)
    {N2 : Nat} {V2 : Nat → Value} {ln2 O2 : Nat → Nat} {Vs2 : List Value} (h2 : HandK w base Bk 3 26 1 N2 V2 ln2 O2 (f 2) Vs2)
    {N8 : Nat} {V8 : Nat → Value} {ln8 O8 : Nat → Nat} {Vs8 : List Value} (h8 : HandK w base Bk 54 23 2 N8 V8 ln8 O8 (f 8) Vs8) :
    Calls Tryd.prog 14 #[.pointer (some ⟨Bk, 0, none⟩)] w fun e w' => e = .returned (.bool true) ∧ KeepS (fun h => (SB N2 V2 h ∨ SB N8 V8 h) ∨ h = Bk) w w' := by
  have HB := hideR hB
  have HS := hideR hbase
  have E2 := hideR h2
  have E8 := hideR h8
  have H0 := hideR (fun W (h : BookF W Bk f) => aloneBytes_nil Bk W (h.c0.trans (congrArg some (hf 0 (by decide) (by decide) (by decide)))))
  have H1 := hideR (fun W (h : BookF W Bk f) => aloneTexts_nil Bk W (h.c1.trans (congrArg some (hf 1 (by decide) (by decide) (by decide)))))
  have H3 := hideR (fun W (h : BookF W Bk f) => aloneInt64s_nil Bk W (h.c3.trans (congrArg some (hf 3 (by decide) (by decide) (by decide)))))
  have H4 := hideR (fun W (h : BookF W Bk f) => aloneBounds_nil Bk W (h.c4.trans (congrArg some (hf 4 (by decide) (by decide) (by decide)))))
  have H5 := hideR (fun W (h : BookF W Bk f) => aloneRats_nil Bk W (h.c5.trans (congrArg some (hf 5 (by decide) (by decide) (by decide)))))
  have H6 := hideR (fun W (h : BookF W Bk f) => aloneLimits_nil Bk W (h.c6.trans (congrArg some (hf 6 (by decide) (by decide) (by decide)))))
  have H7 := hideR (fun W (h : BookF W Bk f) => aloneGuards_nil Bk W (h.c7.trans (congrArg some (hf 7 (by decide) (by decide) (by decide)))))
  have H9 := hideR (fun W (h : BookF W Bk f) => aloneMoves_nil Bk W (h.c9.trans (congrArg some (hf 9 (by decide) (by decide) (by decide)))))
  have H10 := hideR (fun W (h : BookF W Bk f) => aloneDiffs_nil Bk W (h.c10.trans (congrArg some (hf 10 (by decide) (by decide) (by decide)))))
  have H11 := hideR (fun W (h : BookF W Bk f) => aloneSteps_nil Bk W (h.c11.trans (congrArg some (hf 11 (by decide) (by decide) (by decide)))))
  have H12 := hideR (fun W (h : BookF W Bk f) => aloneAts_nil Bk W (h.c12.trans (congrArg some (hf 12 (by decide) (by decide) (by decide)))))
  have H13 := hideR (fun W (h : BookF W Bk f) => aloneBools_nil Bk W (h.c13.trans (congrArg some (hf 13 (by decide) (by decide) (by decide)))))
  have z0 := hf 0 (by decide) (by decide) (by decide)
  have z1 := hf 1 (by decide) (by decide) (by decide)
  have z3 := hf 3 (by decide) (by decide) (by decide)
  have z4 := hf 4 (by decide) (by decide) (by decide)
  have z5 := hf 5 (by decide) (by decide) (by decide)
  have z6 := hf 6 (by decide) (by decide) (by decide)
  have z7 := hf 7 (by decide) (by decide) (by decide)
  have z9 := hf 9 (by decide) (by decide) (by decide)
  have z10 := hf 10 (by decide) (by decide) (by decide)
  have z11 := hf 11 (by decide) (by decide) (by decide)
  have z12 := hf 12 (by decide) (by decide) (by decide)
  have z13 := hf 13 (by decide) (by decide) (by decide)
  clear hB hbase h2 h8 hf
  go_enter Tryd.func14, Tryd.ntmps14
  go_wp2_with fail
  refine (H0.out _ HB.out).mono ?_
  rintro e w20 ⟨rfl, ew0⟩
  subst ew0
  go_wp2_with fail
  refine (H1.out _ HB.out).mono ?_
  rintro e w21 ⟨rfl, ew1⟩
  subst ew1
  go_wp2_with fail
  obtain ⟨ad2, cap2, e2, r2⟩ := E2.out.open_ (by decide)
  refine (aloneInts_any base N2 Bk cap2 V2 ln2 O2 ad2 _ E2.out.L HS.out (by rw [HB.out.c2, e2]) E2.out.off r2 E2.out.own).mono ?_
  rintro e w1 ⟨rfl, kp⟩
  have BK := hideR (HB.out.past (kp.block Bk HB.out.lt E2.out.off))
  have E8 := hideR (E8.out.kept E2.out (by decide) (by decide) kp)
  have HS := hideR (Nat.le_trans HS.out kp.size)
  have KP := hideR (kp.wide (T := fun h => (SB N2 V2 h ∨ SB N8 V8 h) ∨ h = Bk) (fun k hk => .inl (.inl hk)))
  clear kp e2 r2
  go_wp2_with fail
  refine (H3.out _ BK.out).mono ?_
  rintro e w23 ⟨rfl, ew3⟩
  subst ew3
  go_wp2_with fail
  refine (H4.out _ BK.out).mono ?_
  rintro e w24 ⟨rfl, ew4⟩
  subst ew4
  go_wp2_with fail
  refine (H5.out _ BK.out).mono ?_
  rintro e w25 ⟨rfl, ew5⟩
  subst ew5
  go_wp2_with fail
  refine (H6.out _ BK.out).mono ?_
  rintro e w26 ⟨rfl, ew6⟩
  subst ew6
  go_wp2_with fail
  refine (H7.out _ BK.out).mono ?_
  rintro e w27 ⟨rfl, ew7⟩
  subst ew7
  go_wp2_with fail
  obtain ⟨ad8, cap8, e8, r8⟩ := E8.out.open_ (by decide)
  refine (aloneNodes_any base N8 Bk cap8 V8 ln8 O8 ad8 _ E8.out.L HS.out (by rw [BK.out.c8, e8]) E8.out.off r8 E8.out.own).mono ?_
  rintro e w2 ⟨rfl, kp⟩
  have KP := hideR (KP.out.trans (kp.wide (T := fun h => (SB N2 V2 h ∨ SB N8 V8 h) ∨ h = Bk) (fun k hk => .inl (.inr hk))))
  have BK := hideR (BK.out.past (kp.block Bk BK.out.lt E8.out.off))
  clear kp e8 r8
  go_wp2_with fail
  refine (H9.out _ BK.out).mono ?_
  rintro e w29 ⟨rfl, ew9⟩
  subst ew9
  go_wp2_with fail
  refine (H10.out _ BK.out).mono ?_
  rintro e w30 ⟨rfl, ew10⟩
  subst ew10
  go_wp2_with fail
  refine (H11.out _ BK.out).mono ?_
  rintro e w31 ⟨rfl, ew11⟩
  subst ew11
  go_wp2_with fail
  refine (H12.out _ BK.out).mono ?_
  rintro e w32 ⟨rfl, ew12⟩
  subst ew12
  go_wp2_with fail
  refine (H13.out _ BK.out).mono ?_
  rintro e w33 ⟨rfl, ew13⟩
  subst ew13
  have BB := BK.out
  have c0 := BB.c0
  have f0 := BB.free 0
  have c1 := BB.c1
  have f1 := BB.free 1
  have c2 := BB.c2
  have f2 := BB.free 2
  have c3 := BB.c3
  have f3 := BB.free 3
  have c4 := BB.c4
  have f4 := BB.free 4
  have c5 := BB.c5
  have f5 := BB.free 5
  have c6 := BB.c6
  have f6 := BB.free 6
  have c7 := BB.c7
  have f7 := BB.free 7
  have c8 := BB.c8
  have f8 := BB.free 8
  have c9 := BB.c9
  have f9 := BB.free 9
  have c10 := BB.c10
  have f10 := BB.free 10
  have c11 := BB.c11
  have f11 := BB.free 11
  have c12 := BB.c12
  have f12 := BB.free 12
  have c13 := BB.c13
  have f13 := BB.free 13
  clear BB
  go_wp2_with fail
  go_ret
  exact ⟨rfl, (KeepS.set (KeepS.set (KeepS.set (KeepS.set (KeepS.set (KeepS.set (KeepS.set (KeepS.set (KeepS.set (KeepS.set (KeepS.set (KeepS.set (KeepS.set (KeepS.set KP.out (.inr rfl) _ _) (.inr rfl) _ _) (.inr rfl) _ _) (.inr rfl) _ _) (.inr rfl) _ _) (.inr rfl) _ _) (.inr rfl) _ _) (.inr rfl) _ _) (.inr rfl) _ _) (.inr rfl) _ _) (.inr rfl) _ _) (.inr rfl) _ _) (.inr rfl) _ _) (.inr rfl) _ _)⟩
end Go.Proofs.YtgidlgmnkjoofaaDoor
