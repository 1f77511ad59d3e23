/-
  rat.Print of a fraction that is not whole, rat.Between at the fractions that live asks, and live.
-/
import Derived.Test.YtmpdicjjaoeblaaDoorVh
import Derived.OpenShut
import Derived.Lib.AppendIntMem
import Derived.Lib.ItoaLen
namespace Go.Proofs.YtmpdicjjaoeblaaDoor
open Go.RowKit Go.Shelf
set_option linter.unusedVariables false
theorem i64_wf {x : Int} (h : (Lit.int .i64 x).wf = true) : I64 x := bounds_i64 h
theorem str_cat (a b : List UInt8) : ((⟨a.toArray⟩ : ByteArray) ++ (⟨b.toArray⟩ : ByteArray)) = ⟨(a ++ b).toArray⟩ := by
  apply ByteArray.ext
  simp [ByteArray.data_append]
theorem ret_str {a b : ByteArray} (h : a = b) : Ending.returned (.string a) = .returned (.string b) := by rw [h]
abbrev Pow (w : World) : Prop := Lib.TabIs Tryd.prog w "internal/strconv.uint64pow10" .u64 Lib.pow10Tab
theorem pow_later {w w' : World} (h : Pow w) (hb : Below w.heap.size w w') : Pow w' := Lib.tabBelow_of_tabIs h w' hb
theorem format_any (n : Int) (w : World) (hn : I64 n) (ht : Pow w) : Calls Tryd.prog 15 #[.int .i64 n, .int .i64 10] w fun e w' => e = .returned (.string ⟨(Lib.itoa n).toArray⟩) ∧ Below w.heap.size w w' := by
  refine (Go.Proofs.Tryd.strconv_FormatInt_10 n hn.1 hn.2 w ht).mono ?_
  rintro e w' ⟨rfl, k, os, rfl⟩
  exact ⟨rfl, Lib.below_grow _ _ (Nat.le_refl _) _ _⟩
theorem rprint_raw (n d : Int) (a b : List UInt8) (w : World) (hd : ¬ d = 1) (la : a.length ≤ 20) (lb : b.length ≤ 20) (ht : Pow w) (HR : Hid (AskR n d true))
    (HA : Hid (∀ w, Pow w → Calls Tryd.prog 15 #[.int .i64 n, .int .i64 10] w fun e w' => e = .returned (.string ⟨a.toArray⟩) ∧ Below w.heap.size w w'))
    (HB : Hid (∀ w, Pow w → Calls Tryd.prog 15 #[.int .i64 d, .int .i64 10] w fun e w' => e = .returned (.string ⟨b.toArray⟩) ∧ Below w.heap.size w w')) :
    Calls Tryd.prog 7 #[rv n d] w fun e w' => e = .returned (.string ⟨(a ++ [47] ++ b).toArray⟩) ∧ Below w.heap.size w w' := by
  go_enter Tryd.func7, Tryd.ntmps7
  go_wp2_with fail
  refine (HR.out _).mono ?_
  rintro e w1 ⟨rfl, hb⟩
  have s0 := kc ⟨w.heap.size, 0, none⟩ (.int .i64 n) hb (by first | assumption | simp [go_sem, *])
  have s1 := kc ⟨w.heap.size, 1, none⟩ (.int .i64 d) hb (by first | assumption | simp [go_sem, *])
  have hB1 := beyond (single w _) hb
  clear hb
  go_wp2_with fail
  refine (HA.out _ (pow_later ht hB1)).mono ?_
  rintro e w2 ⟨rfl, hb⟩
  have u0 := kc _ _ hb s0
  have u1 := kc _ _ hb s1
  have hB2 := beyond hB1 hb
  clear hb s0 s1
  go_wp2_with fail
  refine (HB.out _ (pow_later ht hB2)).mono ?_
  rintro e w3 ⟨rfl, hb⟩
  have hB3 := beyond hB2 hb
  clear hb
  go_wp2
  go_ret
  refine ⟨ret_str ?_, hB3⟩
  apply ByteArray.ext
  simp [ByteArray.data_append]
theorem print_live (w : World) (ht : Pow w) : Calls Tryd.prog 7 #[rv (-3) 2] w fun e w' => e = .returned (.string ⟨#[45, 51, 47, 50]⟩) ∧ Below w.heap.size w w' := by
  have r : rightR (-3) 2 = true := by decide +kernel
  have k := askR (-3) 2 (by decide) (by decide)
  rw [r] at k
  have h := rprint_raw (-3) 2 (Lib.itoa (-3)) (Lib.itoa 2) w (by decide) (by decide +kernel) (by decide +kernel) ht k (fun w h => format_any _ w (by decide) h) (fun w h => format_any _ w (by decide) h)
  have e : (Lib.itoa (-3) ++ [47] ++ Lib.itoa 2).toArray = #[45, 51, 47, 50] := by decide +kernel
  rw [e] at h
  exact h
theorem below_at (a b c d : Int) (M N : Int) (w : World) (e1 : Value.agg #[.int .u64 a, .int .u64 b] = wv M) (e2 : Value.agg #[.int .u64 c, .int .u64 d] = wv N) (r : Bool) (hr : decide (M < N) = r) :
    Calls Tryd.prog 49 #[.agg #[.int .u64 a, .int .u64 b], .agg #[.int .u64 c, .int .u64 d]] w fun e w' => e = .returned (.bool r) ∧ Below w.heap.size w w' := by
  rw [e1, e2, ← hr]
  exact below_any M N w
theorem product_at (x y a b : Int) (w : World) (hx : U64 x) (hy : U64 y) (e1 : wv (x * y) = Value.agg #[.int .u64 a, .int .u64 b]) :
    Calls Tryd.prog 45 #[.int .u64 x, .int .u64 y] w fun e w' => e = .returned (.agg #[.int .u64 a, .int .u64 b]) ∧ Below w.heap.size w w' := by
  rw [← e1]
  exact product_any x y w hx hy
theorem simplest3 (w : World) : Calls Tryd.prog 31 #[tv 1 1 false, tv 1 0 false] w fun e w' => e = .returned (.tuple #[.int .u64 2, .int .u64 1]) ∧ Below w.heap.size w w' :=
  simplest_stop 1 1 1 0 1 2 0 0 false false w (by decide) (by decide) (by decide) (fun w => product_at 2 0 0 0 w (by decide) (by decide) rfl) (fun w => narrow_any 1 w) (fun w => below_at 0 0 0 1 0 1 w rfl rfl true rfl)
theorem simplest2 (w : World) : Calls Tryd.prog 31 #[tv 2 1 false, tv 3 1 false] w fun e w' => e = .returned (.tuple #[.int .u64 5, .int .u64 2]) ∧ Below w.heap.size w w' :=
  simplest_step 2 1 3 1 2 3 0 3 1 0 2 1 5 false false w (by decide) (by decide) (by decide) (by decide) (fun w => product_at 3 1 0 3 w (by decide) (by decide) rfl) (fun w => narrow_any 3 w) (fun w => below_at 0 3 0 3 3 3 w rfl rfl false rfl)
    (fun w => turned_any 3 1 2 1 false w (by decide)) (fun w => turned_any 2 1 2 0 false w (by decide)) simplest3
theorem simplest1 (w : World) : Calls Tryd.prog 31 #[tv 1 3 false, tv 1 2 false] w fun e w' => e = .returned (.tuple #[.int .u64 2, .int .u64 5]) ∧ Below w.heap.size w w' :=
  simplest_step 1 3 1 2 0 1 0 2 1 1 5 2 2 false false w (by decide) (by decide) (by decide) (by decide) (fun w => product_at 1 2 0 2 w (by decide) (by decide) rfl) (fun w => narrow_any 1 w) (fun w => below_at 0 2 0 1 2 1 w rfl rfl false rfl)
    (fun w => turned_any 1 2 0 1 false w (by decide)) (fun w => turned_any 1 3 0 1 false w (by decide)) simplest2
theorem ask_at (n d : Int) (hn : I64 n) (hd : I64 d) (r : rightR n d = true) : AskR n d true := by
  have := askR n d hn hd
  rw [r] at this
  exact this
theorem compare_at (an ad bn bd c : Int) (w : World) (ha : I64 an) (hb : I64 ad) (hc : I64 bn) (hd : I64 bd) (ra : rightR an ad = true) (rb : rightR bn bd = true) (hv : cmpV an ad bn bd = c) :
    Calls Tryd.prog 28 #[rv an ad, rv bn bd] w fun e w' => e = .returned (.int .i64 c) ∧ Below w.heap.size w w' := by
  rw [← hv]
  exact compare_right an ad bn bd w ha hb hc hd ra rb
theorem between_live (w : World) : Calls Tryd.prog 18 #[rv 1 3, rv 1 2] w fun e w' => e = .returned (.tuple #[rv 2 5, .int .i64 0]) ∧ Below w.heap.size w w' :=
  between_raw 1 3 1 2 (-1) 0 1 1 1 3 1 2 2 5 2 5 false false w (by decide) (by decide) (by decide) (by decide) (ask_at 1 3 (by decide) (by decide) (by decide +kernel)) (ask_at 1 2 (by decide) (by decide) (by decide +kernel))
    (fun w => compare_at 1 3 1 2 (-1) w (by decide) (by decide) (by decide) (by decide) (by decide +kernel) (by decide +kernel) (by decide +kernel))
    (fun w => by
      have h := floor_any 1 3 w (by decide) (by decide)
      have e : floorT 1 3 = 0 := by decide +kernel
      rw [e] at h
      exact h)
    (fun w => whole_any 1 w)
    (fun w => compare_at 1 1 1 2 1 w (by decide) (by decide) (by decide) (by decide) (by decide +kernel) (by decide +kernel) (by decide +kernel))
    (fun w => terms_right 1 3 (by decide) (by decide) (by decide +kernel) w) (fun w => terms_right 1 2 (by decide) (by decide) (by decide +kernel) w)
    simplest1 (fun w => narrow_any 2 w) (fun w => narrow_any 5 w) (fun w => hold_any 2 5 false w (by constructor <;> decide) (by constructor <;> decide))
theorem new_live (w : World) : Calls Tryd.prog 16 #[.int .i64 6, .int .i64 (-4)] w fun e w' => e = .returned (.tuple #[rv (-3) 2, .int .i64 0]) ∧ Below w.heap.size w w' := by
  have h := rnew_any 6 (-4) w (by decide) (by decide)
  have e : newT 6 (-4) = (-3, 2, 0) := by decide +kernel
  rw [e] at h
  exact h
theorem add_live (w : World) : Calls Tryd.prog 17 #[rv (-3) 2, rv 5 1] w fun e w' => e = .returned (.tuple #[rv 7 2, .int .i64 0]) ∧ Below w.heap.size w w' := by
  have h := radd_any (-3) 2 5 1 w (by decide) (by decide) (by decide) (by decide)
  have e : addT (-3) 2 5 1 = (7, 2, 0) := by decide +kernel
  rw [e] at h
  exact h
set_option maxRecDepth 100000 in
theorem live_any (w : World) (ht : Pow w) :
    Calls Tryd.prog 8 #[] w fun e w' => e = .returned (.bool true) ∧ Below w.heap.size w w' := by
  go_enter Tryd.func8, Tryd.ntmps8
  go_wp2_with fail
  refine (new_live _).mono ?_
  rintro e w1 ⟨rfl, h1⟩
  go_wp2_with fail
  refine (add_live _).mono ?_
  rintro e w2 ⟨rfl, hb⟩
  have a0 := kc ⟨w1.heap.size, 0, none⟩ (.int .i64 (-3)) hb (new_cell w1 _ _ 0)
  have a1 := kc ⟨w1.heap.size, 1, none⟩ (.int .i64 2) hb (new_cell w1 _ _ 1)
  have h2 := beyond (beyond h1 (single _ _)) hb
  clear hb h1
  have l2 : w1.heap.size < w2.heap.size := World.block_lt_of_cell? _ _ a0
  go_wp2_with fail
  refine (new_zero 5 _).mono ?_
  rintro e w3 ⟨rfl, hb⟩
  have b0 := kc ⟨w2.heap.size, 0, none⟩ (.int .i64 7) hb (new_cell w2 _ _ 0)
  have b1 := kc ⟨w2.heap.size, 1, none⟩ (.int .i64 2) hb (new_cell w2 _ _ 1)
  have a0 := kc _ _ hb (kc _ _ (single _ _) a0)
  have a1 := kc _ _ hb (kc _ _ (single _ _) a1)
  have h3 := beyond (beyond h2 (single _ _)) hb
  clear hb h2
  have l3 : w2.heap.size < w3.heap.size := World.block_lt_of_cell? _ _ b0
  go_wp2_with fail
  refine (between_live _).mono ?_
  rintro e w4 ⟨rfl, hb⟩
  have a0 := kc _ _ hb (kc _ _ (single _ _) a0)
  have a1 := kc _ _ hb (kc _ _ (single _ _) a1)
  have b0 := kc _ _ hb (kc _ _ (single _ _) b0)
  have b1 := kc _ _ hb (kc _ _ (single _ _) b1)
  have h4 := beyond (beyond h3 (single _ _)) hb
  clear hb h3
  have r0 : ∀ O, (w4.alloc O).cell? ⟨w1.heap.size, 0, none⟩ = some (.int .i64 (-3)) := fun O => kc _ _ (single _ _) a0
  have r1 : ∀ O, (w4.alloc O).cell? ⟨w1.heap.size, 1, none⟩ = some (.int .i64 2) := fun O => kc _ _ (single _ _) a1
  have r2 : ∀ O, (w4.alloc O).cell? ⟨w2.heap.size, 0, none⟩ = some (.int .i64 7) := fun O => kc _ _ (single _ _) b0
  have r3 : ∀ O, (w4.alloc O).cell? ⟨w2.heap.size, 1, none⟩ = some (.int .i64 2) := fun O => kc _ _ (single _ _) b1
  have h5 : ∀ O, Below w.heap.size w (w4.alloc O) := fun O => beyond h4 (single _ _)
  go_wp2_with fail
  refine (print_live _ (pow_later ht (h5 _))).mono ?_
  rintro e w5 ⟨rfl, hb⟩
  have h6 := beyond (h5 _) hb
  go_wp2_with fail
  go_ret
  exact ⟨rfl, h6⟩
end Go.Proofs.YtmpdicjjaoeblaaDoor
