/-
  The contracts of ops at nil zones; joinable.
-/
import Derived.Test.YtfamdajjfpjlaaaDoorOj
namespace Go.Proofs.YtfamdajjfpjlaaaDoor
open Go.RowKit
set_option linter.unusedVariables false
set_option maxRecDepth 100000
/-- A zone's pointer, and how many clocks it has; none: nil. -/
abbrev ZP := Option (Nat × Nat)
def ptrV : ZP → Value
  | none => .pointer none
  | some (b, _) => .pointer (some ⟨b, 0, none⟩)
def ZPs (w : World) (g off : Nat) (l : List ZP) : Prop := ∀ k, k < l.length → w.cell? ⟨g, off + k, none⟩ = some (ptrV (l.getD k none)) ∧ ∀ b m, l.getD k none = some (b, m) → w.cell? ⟨b, 0, none⟩ = some (.int .i64 (m : Int))
def jn (n : Nat) (l : List ZP) : Nat → Int
  | 0 => 0
  | K + 1 => match l.getD K none with
    | some (_, m) => if m = n then jn n l K else 11
    | none => jn n l K
def nn (l : List ZP) : Nat → Bool
  | 0 => true
  | K + 1 => nn l K && (l.getD K none).isSome
theorem nn_false {l : List ZP} : ∀ {k : Nat} (m : Nat), k ≤ m → nn l k = false → nn l m = false := by
  intro k m h e
  induction m with
  | zero => obtain rfl : k = 0 := by omega
            exact e
  | succ m ih =>
    by_cases q : k = m + 1
    · subst q; exact e
    · simp [nn, ih (by omega)]
def joinE (n : Nat) (l : List ZP) : Int := if nn l l.length = true then jn n l l.length else 1
theorem join_nil (v : Value) (w : World) : Calls Tryd.prog 73 #[.pointer none, v] w fun e w' => e = .returned (.int .i64 1) ∧ w' = w := by
  go_enter Tryd.func73, Tryd.ntmps73
  go_wp2_with fail
  go_ret
  exact ⟨rfl, rfl⟩
theorem join_none (b n cap : Nat) (ad : Option Addr) (w : World) : Calls Tryd.prog 73 #[.pointer (some ⟨b, 0, none⟩), .slice ad 0 cap] w fun e w' => e = .returned (.int .i64 0) ∧ w' = w := by
  go_enter Tryd.func73, Tryd.ntmps73
  go_wp2_with fail
  go_loopw [5, 12] (fun e s wr => e = .int .i64 0 ∧ s = .int .i64 0 ∧ wr = w) (fun _ s _ => 1)
  case atStart => exact ⟨rfl, rfl, rfl⟩
  case round =>
    obtain ⟨rfl, rfl, rfl⟩ := hrel
    go_wp2_with fail
    go_ret
    exact ⟨rfl, rfl⟩
set_option maxHeartbeats 1000000 in
theorem join_main (b n g off cap q : Nat) (l : List ZP) (w : World) (h0 : w.cell? ⟨b, 0, none⟩ = some (.int .i64 (n : Int))) (hl : l.length = q) (hq : q ≤ 9223372036854775807) (hp : ZPs w g off l) :
    Calls Tryd.prog 73 #[.pointer (some ⟨b, 0, none⟩), .slice (some ⟨g, off, none⟩) q cap] w fun e w' => e = .returned (.int .i64 (joinE n l)) ∧ w' = w := by
  have HD0 := hideD (dimZ_any b n w h0)
  have HP := hideD hp
  have HJ1 : Hid (nn l q = false → joinE n l = 1) := fun e => by simp [joinE, hl, e]
  have HJ2 : Hid (nn l q = true → joinE n l = jn n l q) := fun e => by simp [joinE, hl, e]
  clear hp h0
  go_enter Tryd.func73, Tryd.ntmps73
  go_wp2_with fail
  go_loopw [5, 12] (fun e s wr => ∃ (K : Nat), K ≤ q ∧ e = .int .i64 (jn n l K) ∧ s = .int .i64 (K : Int) ∧ Hid (nn l K = true) ∧ wr = w) (fun _ s _ => q - (intOf s).toNat)
  case atStart => exact ⟨0, by omega, rfl, rfl, rfl, rfl⟩
  case round =>
    obtain ⟨K, hK, rfl, rfl, hN, rfl⟩ := hrel
    by_cases ck : K < q
    · have k0 : (0 : Int) ≤ (K : Int) := by omega
      have k1 : (K : Int) < (q : Int) := by omega
      obtain ⟨c0, c1⟩ := HP.out K (by omega)
      have st : Hid (nn l (K + 1) = (l.getD K none).isSome) := by show _ = _; simp [nn, hN.out]
      have st2 : Hid (jn n l (K + 1) = match l.getD K none with | some (_, m) => if m = n then jn n l K else 11 | none => jn n l K) := rfl
      generalize l.getD K none = x at *
      cases x with
      | none =>
        have st3 : Hid (nn l q = false) := nn_false (k := K + 1) q (by omega) st.out
        have fin := hideD (HJ1.out st3.out)
        clear st st2 c1
        simp only [ptrV] at c0
        go_wp2_with fail
        go_ret
        exact ⟨by rw [fin.out]; rfl, rfl⟩
      | some x =>
        obtain ⟨zb, zm⟩ := x
        have c1 := c1 zb zm rfl
        have HD1 := hideD (dimZ_any zb zm wr c1)
        simp only [ptrV] at c0
        by_cases e : zm = n
        · have t1 : ((zm : Int) != (n : Int)) = false := by simp [e]
          have st3 : Hid (jn n l (K + 1) = jn n l K) := by show _ = _; rw [st2.out]; simp [e]
          go_wp2_with fail
          refine HD1.out.mono ?_
          rintro e' w2 ⟨rfl, rfl⟩
          go_wp2_with fail
          refine HD0.out.mono ?_
          rintro e' w2 ⟨rfl, rfl⟩
          go_wp2_with fail
          go_roundw
          case rel => exact ⟨K + 1, by omega, by rw [st3.out], by go_num, st, by trivial⟩
          case measure => simp [intOf]; omega
        · have t1 : ((zm : Int) != (n : Int)) = true := by simp; omega
          have st3 : Hid (jn n l (K + 1) = 11) := by show _ = _; rw [st2.out]; simp [e]
          go_wp2_with fail
          refine HD1.out.mono ?_
          rintro e' w2 ⟨rfl, rfl⟩
          go_wp2_with fail
          refine HD0.out.mono ?_
          rintro e' w2 ⟨rfl, rfl⟩
          go_wp2_with fail
          go_roundw
          case rel => exact ⟨K + 1, by omega, by rw [st3.out], by go_num, st, by trivial⟩
          case measure => simp [intOf]; omega
    · have eK : K = q := by omega
      subst eK
      have fin := hideD (HJ2.out hN.out)
      go_wp2_with fail
      go_ret
      exact ⟨by rw [fin.out]; rfl, rfl⟩
theorem free_nil (v : Value) (w : World) : Calls Tryd.prog 40 #[.pointer none, v] w fun e w' => e = errOf 1 ∧ w' = w := by
  go_enter Tryd.func40, Tryd.ntmps40
  go_wp2_with fail
  exact bodyPost_ret (v := .tuple #[.pointer none, .int .i64 1]) (by simp [results, Tryd.results40, go_sem]) rfl ⟨rfl, rfl⟩
theorem copy_nil (v u : Value) (w : World) : Calls Tryd.prog 47 #[.pointer none, v, u] w fun e w' => e = errOf 1 ∧ w' = w := by
  go_enter Tryd.func47, Tryd.ntmps47
  go_wp2_with fail
  exact bodyPost_ret (v := .tuple #[.pointer none, .int .i64 1]) (by simp [results, Tryd.results47, go_sem]) rfl ⟨rfl, rfl⟩
theorem guards_nil (v : Value) (w : World) : Calls Tryd.prog 24 #[.pointer none, v] w fun e w' => e = errOf 1 ∧ w' = w := by
  go_enter Tryd.func24, Tryd.ntmps24
  go_wp2_with fail
  exact bodyPost_ret (v := .tuple #[.pointer none, .int .i64 1]) (by simp [results, Tryd.results24, go_sem]) rfl ⟨rfl, rfl⟩
theorem keep_nil (v : Value) (w : World) : Calls Tryd.prog 48 #[.pointer none, v] w fun e w' => e = errOf 1 ∧ w' = w := by
  go_enter Tryd.func48, Tryd.ntmps48
  go_wp2_with fail
  exact bodyPost_ret (v := .tuple #[.pointer none, .int .i64 1]) (by simp [results, Tryd.results48, go_sem]) rfl ⟨rfl, rfl⟩
theorem unset_err (v : Value) (x k e : Int) (w : World) (he : (e != 0) = true) (HS : Hid (Calls Tryd.prog 85 #[v, .int .i64 x, .int .i64 k] w fun z w' => z = .returned (.int .i64 e) ∧ Below w.heap.size w w')) :
    Calls Tryd.prog 39 #[v, .int .i64 x, .int .i64 k] w fun z w' => z = errOf e ∧ Below w.heap.size w w' := by
  go_enter Tryd.func39, Tryd.ntmps39
  go_wp2_with fail
  refine HS.out.mono ?_
  rintro z w1 ⟨rfl, hb⟩
  go_wp2_with fail
  exact bodyPost_ret (v := .tuple #[.pointer none, .int .i64 e]) (by simp [results, Tryd.results39, go_sem]) rfl ⟨rfl, hb⟩
theorem and_err (v u : Value) (e : Int) (w : World) (he : (e != 0) = true) (HJ : Hid (Calls Tryd.prog 73 #[v, u] w fun z w' => z = .returned (.int .i64 e) ∧ w' = w)) :
    Calls Tryd.prog 30 #[v, u] w fun z w' => z = errOf e ∧ w' = w := by
  go_enter Tryd.func30, Tryd.ntmps30
  go_wp2_with fail
  refine HJ.out.mono ?_
  rintro z w1 ⟨rfl, rfl⟩
  go_wp2_with fail
  exact bodyPost_ret (v := .tuple #[.pointer none, .int .i64 e]) (by simp [results, Tryd.results30, go_sem]) rfl ⟨rfl, rfl⟩
theorem hull_err (v u : Value) (e : Int) (w : World) (he : (e != 0) = true) (HJ : Hid (Calls Tryd.prog 73 #[v, u] w fun z w' => z = .returned (.int .i64 e) ∧ w' = w)) :
    Calls Tryd.prog 32 #[v, u] w fun z w' => z = errOf e ∧ w' = w := by
  go_enter Tryd.func32, Tryd.ntmps32
  go_wp2_with fail
  refine HJ.out.mono ?_
  rintro z w1 ⟨rfl, rfl⟩
  go_wp2_with fail
  exact bodyPost_ret (v := .tuple #[.pointer none, .int .i64 e]) (by simp [results, Tryd.results32, go_sem]) rfl ⟨rfl, rfl⟩
end Go.Proofs.YtfamdajjfpjlaaaDoor
