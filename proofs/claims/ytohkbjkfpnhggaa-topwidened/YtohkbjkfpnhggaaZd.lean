/-
  The contracts of the smallest functions of package bound and of the document's answer beside it (of, AtMost, LessThan, Right, Value, number): for every argument each returns what the plain functions below say, and the world stays.
-/
import Derived.Test.YtohkbjkfpnhggaaChecked
import Derived.WalkKit
import Derived.WalkLawsBesides
import Derived.Laws.BitsLemmas
import Derived.Test.YtohkbjkfpnhggaaZa
import Derived.OwnWalk
import Derived.Laws.AppendOwn
import Derived.Deep.MidRow
import Derived.Laws.StructEq
namespace Go.Proofs.Ytohkbjkfpnhggaa
open Go.RowKit

/-! ### The plain functions -/
def ofB (v : Int) (r : Bool) : Int := if v < -268435456 ∨ 268435456 < v then 0 else if r then 2*v+1 else 2*v
def ofE (v : Int) : Int := if v < -268435456 ∨ 268435456 < v then 10 else 0
def rightB (b : Int) : Bool := decide (b = 2147483647 ∨ (-536870912 ≤ b ∧ b ≤ 536870913))
def finB (b : Int) : Bool := decide (-536870912 ≤ b ∧ b ≤ 536870913)
def valV (b : Int) : Int := if finB b then b / 2 else 0
def valR (b : Int) : Bool := finB b && decide (b % 2 = 1)

theorem right_of_fin {b : Int} (h : finB b = true) : rightB b = true := by
  simp only [finB, rightB, decide_eq_true_eq] at *; exact .inr h
theorem right_inf : rightB 2147483647 = true := by decide
theorem fin_or_inf {b : Int} (h : rightB b = true) : b = 2147483647 ∨ finB b = true := by
  simp only [finB, rightB, decide_eq_true_eq] at *; exact h
theorem fin_iff (b : Int) : finB b = true ↔ (-536870912 ≤ b ∧ b ≤ 536870913) := by simp [finB]

theorem i32_and1 (n : Int) : bits .and .i32 n 1 = n % 2 := by
  have h1 : (BitVec.ofInt 32 1).toNat = 2 ^ 1 - 1 := by decide
  have key : (BitVec.ofInt 32 n &&& BitVec.ofInt 32 1).toNat = (n % ((2 ^ 32 : Nat) : Int)).toNat % 2 ^ 1 := by
    rw [BitVec.toNat_and, BitVec.toNat_ofInt, h1, Nat.and_two_pow_sub_one_eq_mod]
  show IntKind.i32.wrap ((BitVec.ofInt 32 n &&& BitVec.ofInt 32 1).toNat : Nat) = n % 2
  rw [key, IntKind.wrap_i32]
  omega

theorem tdiv_two (a : Int) : a.tdiv 2 = if 0 ≤ a then a / 2 else -((-a) / 2) := by
  split
  · rw [Int.tdiv_eq_ediv_of_nonneg (by assumption)]
  · have h : (-(-a)).tdiv 2 = -((-a).tdiv 2) := Int.neg_tdiv (-a) 2
    rw [Int.neg_neg] at h
    rw [h, Int.tdiv_eq_ediv_of_nonneg (by omega)]
theorem tmod_two (a : Int) : a.tmod 2 = a - 2 * a.tdiv 2 := by
  have := Int.mul_tdiv_add_tmod a 2
  omega

theorem ret_int {k : IntKind} {a b : Int} (h : a = b) : Ending.returned (.int k a) = .returned (.int k b) := by rw [h]
theorem ret_bool {a b : Bool} (h : a = b) : Ending.returned (.bool a) = .returned (.bool b) := by rw [h]
theorem ret_two {k l : IntKind} {a b c d : Int} (h : a = b) (g : c = d) : Ending.returned (.tuple #[.int k a, .int l c]) = .returned (.tuple #[.int k b, .int l d]) := by rw [h, g]
theorem ret_val {a b : Int} {c d e f : Bool} (h : a = b) (g : c = d) (i : e = f) : Ending.returned (.tuple #[.int .i64 a, .bool c, .bool e]) = .returned (.tuple #[.int .i64 b, .bool d, .bool f]) := by rw [h, g, i]

/-! ### of -/
theorem of_any (v : Int) (r : Bool) (w : World) :
    Calls Try.prog 76 #[.int .i64 v, .bool r] w fun e w' => e = .returned (.tuple #[.int .i32 (ofB v r), .int .i64 (ofE v)]) ∧ w' = w := by
  by_cases a : v < -268435456
  · have e1 : ofB v r = 0 := by simp [ofB, a]
    have e2 : ofE v = 10 := by simp [ofE, a]
    rw [e1, e2]
    clear e1 e2
    go_enter Try.func76, Try.ntmps76
    go_wp2
    go_ret2
    exact ⟨rfl, rfl⟩
  · by_cases b : 268435456 < v
    · have e1 : ofB v r = 0 := by simp [ofB, b]
      have e2 : ofE v = 10 := by simp [ofE, b]
      rw [e1, e2]
      clear e1 e2
      go_enter Try.func76, Try.ntmps76
      go_wp2
      go_ret2
      exact ⟨rfl, rfl⟩
    · cases r
      · have e1 : ofB v false = 2*v := by simp [ofB, a, b]
        have e2 : ofE v = 0 := by simp [ofE, a, b]
        rw [e1, e2]
        clear e1 e2
        go_enter Try.func76, Try.ntmps76
        go_wp2
        go_ret2
        exact ⟨rfl, rfl⟩
      · have e1 : ofB v true = 2*v+1 := by simp [ofB, a, b]
        have e2 : ofE v = 0 := by simp [ofE, a, b]
        rw [e1, e2]
        clear e1 e2
        go_enter Try.func76, Try.ntmps76
        go_wp2
        go_ret2
        exact ⟨rfl, rfl⟩

/-! ### The answer's of -/
theorem atMost_any (v : Int) (w : World) :
    Calls Try.prog 64 #[.int .i64 v] w fun e w' => e = .returned (.tuple #[.int .i32 (ofB v true), .int .i64 (ofE v)]) ∧ w' = w := by
  go_enter Try.func64, Try.ntmps64
  go_wp2_with (go_at_call 76; refine (of_any _ _ _).mono ?_; rintro e w' ⟨rfl, rfl⟩)
  go_ret2
  exact ⟨rfl, rfl⟩
theorem lessThan_any (v : Int) (w : World) :
    Calls Try.prog 65 #[.int .i64 v] w fun e w' => e = .returned (.tuple #[.int .i32 (ofB v false), .int .i64 (ofE v)]) ∧ w' = w := by
  go_enter Try.func65, Try.ntmps65
  go_wp2_with (go_at_call 76; refine (of_any _ _ _).mono ?_; rintro e w' ⟨rfl, rfl⟩)
  go_ret2
  exact ⟨rfl, rfl⟩
/-! ### number, Right, Value -/
theorem right_any (b : Int) (w : World) :
    Calls Try.prog 15 #[.int .i32 b] w fun e w' => e = .returned (.bool (rightB b)) ∧ w' = w := by
  by_cases h : b = 2147483647
  · subst h
    go_enter Try.func15, Try.ntmps15
    go_wp2
    go_ret
    exact ⟨rfl, rfl⟩
  · have hb : (b == 2147483647) = false := by simpa using h
    by_cases l : -536870912 ≤ b
    · by_cases u : b ≤ 536870913
      · have e : rightB b = true := by simp [rightB, l, u]
        rw [e]
        clear e
        go_enter Try.func15, Try.ntmps15
        go_wp2
        go_ret
        exact ⟨rfl, rfl⟩
      · have e : rightB b = false := by simp [rightB, h, u]
        rw [e]
        clear e
        go_enter Try.func15, Try.ntmps15
        go_wp2
        go_ret
        exact ⟨rfl, rfl⟩
    · have e : rightB b = false := by simp [rightB, h, l]
      rw [e]
      clear e
      go_enter Try.func15, Try.ntmps15
      go_wp2
      go_ret
      exact ⟨rfl, rfl⟩

theorem value_inf (w : World) :
    Calls Try.prog 37 #[.int .i32 2147483647] w fun e w' => e = .returned (.tuple #[.int .i64 0, .bool false, .bool false]) ∧ w' = w := by
  go_enter Try.func37, Try.ntmps37
  go_wp2_with fail
  go_ret3
  exact ⟨rfl, rfl⟩
theorem value_any (b : Int) (w : World) :
    Calls Try.prog 37 #[.int .i32 b] w fun e w' => e = .returned (.tuple #[.int .i64 (valV b), .bool (valR b), .bool (finB b)]) ∧ w' = w := by
  by_cases h : b = 2147483647
  · subst h
    exact value_inf w
  · have hb : (b == 2147483647) = false := by simpa using h
    by_cases f : finB b = true
    · have r := right_of_fin f
      have l := (fin_iff b).1 f
      have l0 := l.1
      have l1 := l.2
      have e1 : valV b = b / 2 := by simp [valV, f]
      have e2 : valR b = (bits BinOp.and IntKind.i32 b 1 == 1) := by rw [i32_and1]; simp [valR, f]; rfl
      rw [e1, e2, f]
      clear e1 e2 f l
      go_enter Try.func37, Try.ntmps37
      go_wp2_with (go_at_call 15; refine (right_any _ _).mono ?_; rintro e w' ⟨rfl, rfl⟩)
      go_ret3
      exact ⟨rfl, rfl⟩
    · have f : finB b = false := by simpa using f
      have r : rightB b = false := by
        simp only [finB, rightB, decide_eq_false_iff_not] at *
        omega
      have e1 : valV b = 0 := by simp [valV, f]
      have e2 : valR b = false := by simp [valR, f]
      rw [e1, e2, f]
      clear e1 e2 f
      go_enter Try.func37, Try.ntmps37
      go_wp2_with (go_at_call 15; refine (right_any _ _).mono ?_; rintro e w' ⟨rfl, rfl⟩)
      go_ret3
      exact ⟨rfl, rfl⟩

end Go.Proofs.Ytohkbjkfpnhggaa

/-
  The contract of dbm.Of.
-/
namespace Go.Proofs.Ytohkbjkfpnhggaa
open Go.RowKit
set_option linter.unusedVariables false
set_option maxRecDepth 100000
def tg (r : Mat) (i j : Nat) (x : Int) : Mat := if x = 2147483647 then r else upd r i j (min (r i j) x)
def tgAll (n : Nat) (l : List Int) : Nat → Mat → Mat
  | 0, r => r
  | k + 1, r => tg (tgAll n l k r) (k / (n + 1)) (k % (n + 1)) (l.getD k 0)
def allRight (l : List Int) : Nat → Bool
  | 0 => true
  | k + 1 => allRight l k && rightB (l.getD k 0)
theorem allRight_false {l : List Int} : ∀ {k : Nat} (m : Nat), k ≤ m → allRight l k = false → allRight l m = false := by
  intro k m h e
  induction m with
  | zero => obtain rfl : k = 0 := by omega
            exact e
  | succ m ih =>
    by_cases q : k = m + 1
    · subst q; exact e
    · simp [allRight, ih (by omega)]
theorem tighten_any (b n i j : Nat) (r : Mat) (x : Int) (w : World) (hD : Draft w b n r) (i1 : i ≤ 8) (j1 : j ≤ 8) (x0 : -2147483648 ≤ x) (x1 : x ≤ 2147483647) :
    Calls Try.prog 16 #[.pointer (some ⟨b, 0, none⟩), .int .i64 i, .int .i64 j, .int .i32 x] w fun e w' => e = .returned (.tuple #[]) ∧ Draft w' b n (tg r i j x) ∧ Below b w w' := by
  by_cases hx : x = 2147483647
  · subst hx
    refine (tighten_inf _ _ _ w).mono ?_
    rintro e w' ⟨rfl, rfl⟩
    exact ⟨rfl, by simpa [tg] using hD, Below.refl _ _⟩
  · refine (tighten_fin b i j x (r i j) w i1 j1 (by simpa using hx) x0 x1 (hD.cell i j i1 j1) (hD.free i j i1 j1)).mono ?_
    rintro e w' ⟨rfl, rfl⟩
    refine ⟨rfl, ?_, Below.drew (Below.setCell (p := at9 b i j) (Below.refl b w) (Nat.le_refl _) _)⟩
    simp only [tg, if_neg hx]
    exact (hD.set i1 j1 _).drew
/-- A row of bounds in memory. -/
def RowAt (w : World) (b off : Nat) (l : List Int) : Prop := ∀ j, j < l.length → w.cell? ⟨b, off + j, none⟩ = some (.int .i32 (l.getD j 0))
theorem RowAt.later {w w' : World} {b off B : Nat} {l : List Int} (h : RowAt w b off l) (hb : Below B w w') (hB : b < B) : RowAt w' b off l := fun j hj => (hb.cell (p := ⟨b, off + j, none⟩) hB).trans (h j hj)
abbrev errOf (e : Int) : Ending := .returned (.tuple #[.pointer none, .int .i64 e])
theorem of_clock (n : Int) (v : Value) (w : World) (h : ¬ (0 ≤ n ∧ n ≤ 8)) :
    Calls Try.prog 52 #[.int .i64 n, v] w fun e w' => e = errOf 12 ∧ w' = w := by
  have H : Hid (Calls Try.prog 12 #[.int .i64 n] w fun e w' => e = .returned (.bool false) ∧ w' = w) := by
    have := mayHave_any n w
    rw [decide_eq_false h] at this
    exact this
  clear h
  go_enter Try.func52, Try.ntmps52
  go_wp2_with fail
  refine H.out.mono ?_
  rintro e w' ⟨rfl, rfl⟩
  go_wp2_with fail
  refine bodyPost_ret (v := .tuple #[.pointer none, .int .i64 12]) (by simp [results, Try.results52, go_sem]) rfl ⟨rfl, rfl⟩
theorem mayYes (n : Nat) (w : World) (h : n ≤ 8) : Calls Try.prog 12 #[.int .i64 n] w fun e w' => e = .returned (.bool true) ∧ w' = w := by
  have := mayHave_any n w
  rw [decide_eq_true ⟨by omega, by omega⟩] at this
  exact this
theorem of_long (n len cap : Nat) (a : Option Addr) (w : World) (h : n ≤ 8) (hl : ¬ len = (n + 1) * (n + 1)) (hbig : len ≤ 9223372036854775807) :
    Calls Try.prog 52 #[.int .i64 n, .slice a len cap] w fun e w' => e = errOf 6 ∧ Below w.heap.size w w' := by
  have H := hideD (mayYes n w h)
  have HD := hideD (draftOf_any n w h)
  have q : (n + 1) * (n + 1) ≤ 81 := Nat.mul_le_mul (show n + 1 ≤ 9 by omega) (show n + 1 ≤ 9 by omega)
  have HS : Hid (∀ w, Calls Try.prog 54 #[.agg #[.int .i64 n]] w fun e w' => e = .returned (.int .i64 ((n + 1 : Nat) : Int)) ∧ Below w.heap.size w w') := fun w => side_any n w h
  have e1 : IntKind.i64.wrap (((n + 1 : Nat) : Int) * ((n + 1 : Nat) : Int)) = (((n + 1) * (n + 1) : Nat) : Int) := by
    rw [← Int.natCast_mul]
    generalize (n + 1) * (n + 1) = z at *
    rw [IntKind.wrap_i64]
    omega
  generalize (n + 1) * (n + 1) = m at *
  generalize ((n + 1 : Nat) : Int) = s at *
  have hl1 : ((len : Int) != (m : Int)) = true := by simp; omega
  go_enter Try.func52, Try.ntmps52
  go_wp2_with fail
  refine H.out.mono ?_
  rintro e w' ⟨rfl, rfl⟩
  go_wp2_with fail
  refine HD.out.mono ?_
  rintro e w1 ⟨rfl, hd, hb⟩
  have hc := hd.clocks
  have HD1 := hideD hd
  have HB1 := hideD hb
  clear hd hb H HD
  go_upto_region 4 with (fail)
  go_cut [29] (fun t w2 => t = .bool (true) ∧ Hid (Below w1.heap.size w1 w2))
  case first =>
    go_region_held3 (fun w2 => Below w1.heap.size w1 w2 ∧ w2.cell? ⟨w'.heap.size, 0, none⟩ = some (.int .i64 n))
      (first | exact ⟨by first | assumption | exact Below.refl _ _ | exact Below.drew (Below.refl _ _), by first | assumption | simp [go_sem, *]⟩ | go_keep)
      (first | (go_at_call 54; refine (HS.out _).mono ?_; rintro e' w2 ⟨rfl, hb⟩; have s0 := kc ⟨w'.heap.size, 0, none⟩ (.int .i64 n) hb (by first | assumption | simp [go_sem, *]); have s1 := beyondD (w := w1) (by first | assumption | exact Below.refl _ _ | exact Below.drew (Below.refl _ _)) hb))
    all_goals go_wp2_with fail
    all_goals go_meet
    all_goals exact ⟨by first | rfl | simp [*], by assumption⟩
  case rest =>
    obtain ⟨rfl, hb2⟩ := hcut
    go_wp2_with fail
    refine bodyPost_ret (v := .tuple #[.pointer none, .int .i64 6]) (by simp [results, Try.results52, go_sem]) rfl ⟨rfl, HB1.out.trans (hb2.out.mono HB1.out.size)⟩
set_option maxHeartbeats 1000000 in
theorem of_main (n cb off cap : Nat) (l : List Int) (w : World) (h : n ≤ 8) (hlen : l.length = (n + 1) * (n + 1)) (hR : RowAt w cb off l) (hi : ∀ j, j < l.length → -2147483648 ≤ l.getD j 0 ∧ l.getD j 0 ≤ 2147483647) :
    Calls Try.prog 52 #[.int .i64 n, .slice (some ⟨cb, off, none⟩) l.length cap] w fun e w' => Below w.heap.size w w' ∧
      ((allRight l l.length = false ∧ e = errOf 7) ∨ (allRight l l.length = true ∧ ZoneOut w' w.heap.size n e (zoneR n (tgAll n l l.length (startR n (n + 1) 0))))) := by
  have hcb : cb < w.heap.size := World.block_lt_of_cell? _ _ (hR 0 (by rw [hlen]; exact Nat.mul_pos (by omega) (by omega)))
  have H := hideD (mayYes n w h)
  have HD := hideD (draftOf_any n w h)
  have q : (n + 1) * (n + 1) ≤ 81 := Nat.mul_le_mul (show n + 1 ≤ 9 by omega) (show n + 1 ≤ 9 by omega)
  have HS : Hid (∀ w, Calls Try.prog 54 #[.agg #[.int .i64 n]] w fun e w' => e = .returned (.int .i64 ((n + 1 : Nat) : Int)) ∧ Below w.heap.size w w') := fun w => side_any n w h
  have e1 : IntKind.i64.wrap (((n + 1 : Nat) : Int) * ((n + 1 : Nat) : Int)) = (((n + 1) * (n + 1) : Nat) : Int) := by
    rw [← Int.natCast_mul]
    generalize (n + 1) * (n + 1) = z at *
    rw [IntKind.wrap_i64]
    omega
  have HQ : Hid (∀ k, k < l.length → k / (n + 1) ≤ n ∧ k % (n + 1) ≤ n) := fun k hk => ⟨by have := Nat.div_lt_of_lt_mul (hlen ▸ hk); omega, by have := Nat.mod_lt k (show 0 < n + 1 by omega); omega⟩
  have e2 : IntKind.i64.wrap (((n + 1 : Nat) : Int) * ((n + 1 : Nat) : Int)) = (l.length : Int) := by rw [hlen]; exact e1
  rw [← hlen] at q
  clear e1
  have HR := hideD hR
  have HI := hideD hi
  clear hR hi
  have HZ : Hid (∀ b w, Draft w b n (tgAll n l l.length (startR n (n + 1) 0)) → Calls Try.prog 17 #[.pointer (some ⟨b, 0, none⟩)] w fun e w' => ZoneOut w' w.heap.size n e (zoneR n (tgAll n l l.length (startR n (n + 1) 0))) ∧ Below b w w') := fun b w hD => zone_any b n _ w h hD
  have HP : Hid (∀ (k : Nat) w, k < l.length → Calls Try.prog 34 #[.agg #[.int .i64 n], .int .i64 k] w fun e w' => e = .returned (.tuple #[.int .i64 ((k / (n + 1) : Nat) : Int), .int .i64 ((k % (n + 1) : Nat) : Int)]) ∧ Below w.heap.size w w') := fun k w hk => place_any n k w h (by omega)
  have hm : Hid (l.length = l.length) := rfl
  have HL := hideD hlen
  clear hlen
  generalize em : l.length = m at *
  generalize ((n + 1 : Nat) : Int) = s at *
  have m1 : (m : Int) ≤ 81 := by omega
  go_enter Try.func52, Try.ntmps52
  go_wp2_with fail
  refine H.out.mono ?_
  rintro e w' ⟨rfl, rfl⟩
  go_wp2_with fail
  refine HD.out.mono ?_
  rintro e w1 ⟨rfl, hd, hb⟩
  have hc := hd.clocks
  have HD1 := hideD hd
  have HB1 := hideD hb
  clear hd hb H HD
  go_upto_region 4 with (fail)
  go_cut [29] (fun t w2 => t = .bool (false) ∧ Hid (Below w1.heap.size w1 w2))
  case first =>
    go_region_held3 (fun w2 => Below w1.heap.size w1 w2 ∧ w2.cell? ⟨w'.heap.size, 0, none⟩ = some (.int .i64 n))
      (first | exact ⟨by first | assumption | exact Below.refl _ _ | exact Below.drew (Below.refl _ _), by first | assumption | simp [go_sem, *]⟩ | go_keep)
      (first | (go_at_call 54; refine (HS.out _).mono ?_; rintro e' w2 ⟨rfl, hb⟩; have s0 := kc ⟨w'.heap.size, 0, none⟩ (.int .i64 n) hb (by first | assumption | simp [go_sem, *]); have s1 := beyondD (w := w1) (by first | assumption | exact Below.refl _ _ | exact Below.drew (Below.refl _ _)) hb))
    all_goals go_wp2_with fail
    all_goals go_meet
    all_goals exact ⟨by first | rfl | simp [*], by assumption⟩
  case rest =>
    obtain ⟨rfl, hb2⟩ := hcut
    have hD2 := hideD (HD1.out.later hb2.out HD1.out.lt)
    have hB2 := hideD (HB1.out.trans (hb2.out.mono HB1.out.size))
    clear hb2 HD1 HB1 hc
    go_wp2_with fail
    go_loopw [32] (fun s wr => ∃ (K : Nat), K ≤ m ∧ s = .int .i64 K ∧ Hid (allRight l K = true) ∧ Hid (Draft wr w'.heap.size n (tgAll n l K (startR n (n + 1) 0))) ∧ Hid (Below w'.heap.size w' wr)) (fun s _ => m - (intOf s).toNat)
    case atStart => exact ⟨0, by omega, rfl, rfl, hD2, hB2⟩
    case round =>
      obtain ⟨K, hK, rfl, hq, hD, hB⟩ := hrel
      clear hD2 hB2
      by_cases ck : K < m
      · have hrow := (HR.out.later hB.out hcb) K (by omega)
        obtain ⟨x0, x1⟩ := HI.out K (by omega)
        have st : Hid (allRight l (K + 1) = rightB (l.getD K 0)) := by show allRight l (K + 1) = _; simp [allRight, hq.out]
        have nx : Hid (tgAll n l (K + 1) (startR n (n + 1) 0) = tg (tgAll n l K (startR n (n + 1) 0)) (K / (n + 1)) (K % (n + 1)) (l.getD K 0)) := rfl
        obtain ⟨i1, j1⟩ := HQ.out K ck
        have HPK : Hid (∀ w, Calls Try.prog 34 #[.agg #[.int .i64 n], .int .i64 K] w fun e w' => e = .returned (.tuple #[.int .i64 ((K / (n + 1) : Nat) : Int), .int .i64 ((K % (n + 1) : Nat) : Int)]) ∧ Below w.heap.size w w') := fun w => HP.out K w ck
        have HB : Hid (∀ w, Calls Try.prog 15 #[.int .i32 (l.getD K 0)] w fun e w' => e = .returned (.bool (rightB (l.getD K 0))) ∧ w' = w) := fun w => right_any _ w
        generalize K / (n + 1) = i at *
        generalize K % (n + 1) = j at *
        generalize l.getD K 0 = x at *
        cases er : rightB x with
        | false =>
          rw [er] at HB st
          have st3 : Hid (allRight l m = false) := allRight_false (k := K + 1) m (by omega) st.out
          go_wp2_with fail
          refine (HB.out _).mono ?_
          rintro e' w3 ⟨rfl, rfl⟩
          go_wp2_with fail
          refine bodyPost_ret (v := .tuple #[.pointer none, .int .i64 7]) (by simp [results, Try.results52, go_sem]) rfl ⟨hB.out, .inl ⟨st3.out, rfl⟩⟩
        | true =>
          rw [er] at HB st
          have hc := hD.out.clocks
          go_wp2_with fail
          refine (HB.out _).mono ?_
          rintro e' w3 ⟨rfl, rfl⟩
          go_wp2_with fail
          refine (HPK.out _).mono ?_
          rintro e' w4 ⟨rfl, hb⟩
          have hD4 := hideD (hD.out.later hb hD.out.lt)
          have hB4 := hideD (beyondD hB.out hb)
          have HT := hideD (tighten_any _ n i j _ x w4 hD4.out (by omega) (by omega) x0 x1)
          clear hb hD hB hc hrow
          go_wp2_with fail
          refine HT.out.mono ?_
          rintro e' w5 ⟨rfl, hd, hb⟩
          have hD5 := hideD hd
          have hB5 := hideD (hB4.out.trans hb)
          clear hd hb
          go_wp2_with fail
          go_roundw
          case rel => exact ⟨K + 1, by omega, by go_num, st, by rw [nx.out]; exact hD5, hB5⟩
          case measure => simp [intOf]; omega
      · have st : Hid (K = m) := by show K = m; omega
        have hq' : Hid (allRight l m = true) := by have e := st.out; subst e; exact hq
        have hD' : Hid (Draft wr w'.heap.size n (tgAll n l m (startR n (n + 1) 0))) := by have e := st.out; subst e; exact hD
        have HZ' := hideD (HZ.out _ _ hD'.out)
        go_wp2_with fail
        refine HZ'.out.mono ?_
        rintro e' w3 ⟨hz, hb⟩
        have hB3 := hideD (hB.out.trans hb)
        have hsz := hB.out.size
        cases ez : zoneR n (tgAll n l m (startR n (n + 1) 0)) with
        | none =>
          rw [ez] at hz
          obtain rfl := hz
          go_wp2_with fail
          exact bodyPost_ret (v := .tuple #[.pointer none, .int .i64 10]) (by simp [results, Try.results52, go_sem]) rfl ⟨hB3.out, .inr ⟨hq'.out, by rw [ez]; exact rfl⟩⟩
        | some c =>
          rw [ez] at hz
          obtain ⟨b', hb', rfl, hz⟩ := hz
          go_wp2_with fail
          exact bodyPost_ret (v := .tuple #[.pointer (some ⟨b', 0, none⟩), .int .i64 0]) (by simp [results, Try.results52, go_sem]) rfl ⟨hB3.out, .inr ⟨hq'.out, by rw [ez]; exact ⟨b', Nat.le_trans hsz hb', rfl, hz⟩⟩⟩
end Go.Proofs.Ytohkbjkfpnhggaa

/-
  The contracts of dbm.Limits without limits, Universe, Zero.
-/
namespace Go.Proofs.Ytohkbjkfpnhggaa
open Go.RowKit
set_option linter.unusedVariables false
set_option maxRecDepth 100000
set_option maxHeartbeats 1000000 in
theorem limits_none (n : Nat) (w : World) (h : n ≤ 8) :
    Calls Try.prog 4 #[.int .i64 n, .slice none 0 0] w fun e w' => Below w.heap.size w w' ∧ ZoneOut w' w.heap.size n e (zoneR n (startR n (n + 1) 0)) := by
  have H := hideD (mayYes n w h)
  have HD := hideD (draftOf_any n w h)
  go_enter Try.func4, Try.ntmps4
  go_wp2_with fail
  refine H.out.mono ?_
  rintro e w' ⟨rfl, rfl⟩
  go_wp2_with fail
  refine HD.out.mono ?_
  rintro e w1 ⟨rfl, hd, hb⟩
  have HZ := hideD (zone_any _ n _ w1 h hd)
  have hB := hideD hb
  clear hd hb H HD
  go_wp2_with fail
  go_loopw [16] (fun s wr => s = .int .i64 0 ∧ wr = w1) (fun s _ => 1)
  case atStart => exact ⟨rfl, rfl⟩
  case round =>
    obtain ⟨rfl, rfl⟩ := hrel
    go_wp2_with fail
    refine HZ.out.mono ?_
    rintro e' w3 ⟨hz, hb⟩
    have hB3 := hideD (hB.out.trans hb)
    have hsz := hB.out.size
    cases ez : zoneR n (startR n (n + 1) 0) with
    | none =>
      rw [ez] at hz
      obtain rfl := hz
      go_wp2_with fail
      exact bodyPost_ret (v := .tuple #[.pointer none, .int .i64 10]) (by simp [results, Try.results4, go_sem]) rfl ⟨hB3.out, by rw [ez]; exact rfl⟩
    | some c =>
      rw [ez] at hz
      obtain ⟨b', hb', rfl, hz⟩ := hz
      go_wp2_with fail
      exact bodyPost_ret (v := .tuple #[.pointer (some ⟨b', 0, none⟩), .int .i64 0]) (by simp [results, Try.results4, go_sem]) rfl ⟨hB3.out, by rw [ez]; exact ⟨b', Nat.le_trans hsz hb', rfl, hz⟩⟩
theorem limits_clock (n : Int) (v : Value) (w : World) (h : ¬ (0 ≤ n ∧ n ≤ 8)) :
    Calls Try.prog 4 #[.int .i64 n, v] w fun e w' => e = errOf 12 ∧ w' = w := by
  have H : Hid (Calls Try.prog 12 #[.int .i64 n] w fun e w' => e = .returned (.bool false) ∧ w' = w) := by
    have := mayHave_any n w
    rw [decide_eq_false h] at this
    exact this
  clear h
  go_enter Try.func4, Try.ntmps4
  go_wp2_with fail
  refine H.out.mono ?_
  rintro e w' ⟨rfl, rfl⟩
  go_wp2_with fail
  refine bodyPost_ret (v := .tuple #[.pointer none, .int .i64 12]) (by simp [results, Try.results4, go_sem]) rfl ⟨rfl, rfl⟩
/-- The rows of the one valuation in which all clocks are 0, laid up to clock c. -/
def zeroR : Nat → Mat → Mat
  | 0, r => r
  | c + 1, r => tg (zeroR c r) (c + 1) 0 1
end Go.Proofs.Ytohkbjkfpnhggaa

/-
  The contracts of Zone.Cells, Includes, Equal, Key.
-/
namespace Go.Proofs.Ytohkbjkfpnhggaa
open Go.RowKit
set_option linter.unusedVariables false
set_option maxRecDepth 100000
theorem info_bd : (Try.prog.info? 41).map (fun i => (i.zero, i.size, i.bytes)) = some (some (.int .i32 0), 1, 4) := by kernel_rfl
/-- The used cells, as a list. -/
def listOf (c : Row) (m : Nat) : List Int := (List.range m).map c
theorem listOf_len (c : Row) (m : Nat) : (listOf c m).length = m := by simp [listOf]
theorem listOf_get (c : Row) (m j : Nat) (h : j < m) : (listOf c m).getD j 0 = c j := by simp [listOf, List.getD, h]
/-- A row that the call made itself. -/
def OwnRow (w : World) (B : Nat) (v : Value) (l : List Int) : Prop := ∃ g cap, v = .slice (some ⟨g, 0, none⟩) l.length cap ∧ B ≤ g ∧ g < w.heap.size ∧ RowAt w g 0 l
set_option maxHeartbeats 1000000 in
theorem cells_any (b n : Nat) (c : Row) (w : World) (hz : ZoneAt w b n c) (hn : n ≤ 8) :
    Calls Try.prog 50 #[.pointer (some ⟨b, 0, none⟩)] w fun e w' => (∃ v, e = .returned v ∧ OwnRow w' w.heap.size v (listOf c ((n + 1) * (n + 1)))) ∧ Below w.heap.size w w' := by
  have HU := hideD (used_any b n w hn hz.clocks)
  have hm : (n + 1) * (n + 1) ≤ 81 := Nat.mul_le_mul (show n + 1 ≤ 9 by omega) (show n + 1 ≤ 9 by omega)
  have hp : 0 < (n + 1) * (n + 1) := Nat.mul_pos (by omega) (by omega)
  generalize (n + 1) * (n + 1) = m at *
  have hl := listOf_len c m
  obtain ⟨i0, hi, hz0, hz1, hz2⟩ := info_parts info_bd
  have HZ := hideD hz
  clear hz
  go_enter Try.func50, Try.ntmps50
  go_wp2_with fail
  refine HU.out.mono ?_
  rintro e w1 ⟨rfl, hb⟩
  have hZ1 := hideD (HZ.out.past hb)
  have hB1 := hideD hb
  have HN : Hid (∀ j u, ((listOf c m).map (Value.int .i32))[j]? = some u → w1.cell? ((⟨b, 1, none⟩ : Addr).add j) = some u) := by
    intro j u hu
    rw [Addr.add_lit]
    by_cases hj : j < m
    · rw [hZ1.out.cell j (by omega)]
      simp [listOf, hj] at hu
      simp [hu]
    · rw [List.getElem?_eq_none (by simp [hl]; omega)] at hu
      cases hu
  clear hb HU HZ
  go_wp2_with (at_builtin; refine wpList_append_own _ rfl _ _ 85 rfl w1.heap.size 41 i0 (.int .i32 0) 1 4 Try.underlying85 hi hz0 hz1 hz2 rfl (by decide) _ 0 [] rfl (World.ownsRow_nil _ _ _ _) ⟨b, 1, none⟩ m 81 ((listOf c m).map (Value.int .i32)) rfl (by simp [hl]) HN.out (fun x hx => by obtain ⟨z, _, rfl⟩ := List.mem_map.1 hx; rfl) (by unfold maxLen; omega) (by omega) (Nat.le_refl _) ?_; intro v' w2 hown hgrow hnil)
  have hb2 : Below w1.heap.size w1 w2 := (Below.refl _ _).grown hgrow (Nat.le_refl _) (by intro k hk; cases hk)
  go_ret
  refine ⟨⟨v', rfl, ?_⟩, beyondD hB1.out hb2⟩
  rcases hown.2 with ⟨rfl, hn0⟩ | ⟨g, cap, cur, rfl, hg, h2, h3, h4, h5, h6⟩
  · exfalso
    simp at hn0
    omega
  · have hrow : RowAt w2 g 0 (listOf c m) := fun j hj => by
      have hc := World.ownsRow.cells hown (g := g) rfl j (.int .i32 ((listOf c m).getD j 0)) (by simp [List.getD, hj])
      rw [Addr.add_lit] at hc
      exact hc
    refine ⟨g, cap, by rw [hl]; simp, Nat.le_trans hB1.out.size hg, ?_, hrow⟩
    exact World.block_lt_of_cell? _ _ (hrow 0 (by rw [hl]; exact hp))
end Go.Proofs.Ytohkbjkfpnhggaa

/-
  The contracts of alike, Zone.Equal, Includes.
-/
namespace Go.Proofs.Ytohkbjkfpnhggaa
open Go.RowKit
set_option linter.unusedVariables false
set_option maxRecDepth 100000
theorem alike_raw (b o : Nat) (n m : Int) (w : World) (h1 : w.cell? ⟨b, 0, none⟩ = some (.int .i64 n)) (h2 : w.cell? ⟨o, 0, none⟩ = some (.int .i64 m)) :
    Calls Try.prog 29 #[.pointer (some ⟨b, 0, none⟩), .pointer (some ⟨o, 0, none⟩)] w fun e w' => e = .returned (.bool (n == m)) ∧ ∃ k, w' = w.drewN k := by
  go_enter Try.func29, Try.ntmps29
  go_wp2_with fail
  go_quiet (fail)
  go_wp2_with fail
  go_ret
  exact ⟨rfl, _, rfl⟩
theorem alike_same (b o n : Nat) (c d : Row) (w : World) (hz : ZoneAt w b n c) (hy : ZoneAt w o n d) :
    Calls Try.prog 29 #[.pointer (some ⟨b, 0, none⟩), .pointer (some ⟨o, 0, none⟩)] w fun e w' => e = .returned (.bool true) ∧ ∃ k, w' = w.drewN k := by
  have := alike_raw b o n n w hz.clocks hy.clocks
  simpa using this
/-- Are two rows the same at the first m places? -/
def eqUpto (c d : Row) (m : Nat) : Bool := (List.range m).all fun i => c i == d i
theorem run_eql_row (c d : Row) (w : World) :
    (binOp .eql 64 (.agg ((listOf c 81).map (Value.int .i32)).toArray) (.agg ((listOf d 81).map (Value.int .i32)).toArray)).run Try.prog w = .ok (.bool (eqUpto c d 81)) w := by
  have hu : Try.prog.underlying 64 = some (.array 81 41) := by kernel_rfl
  have he : Try.prog.underlying 41 = some (.int .i32) := by kernel_rfl
  have hs : ∀ w, (Go.sizeOf 41).run Try.prog w = .ok 1 w := fun w => by kernel_rfl
  rw [run_eql_struct, Op.equalIn]
  simp only [Sem.run_bind, run_underlying hu, Result.andThen_ok, hs, Std.Legacy.Range.forIn_eq_forIn_range', Std.Legacy.Range.size, Nat.sub_zero, Nat.add_sub_cancel, Nat.div_one]
  rw [eqUpto, List.range_eq_range']
  have hl : ∀ i ∈ List.range' 0 81, i < 81 := fun i hi => by simpa using (List.mem_range'_1.1 hi).2
  generalize List.range' 0 81 = l at hl ⊢
  induction l with
  | nil => simp
  | cons i l ih =>
    have hi : i < 81 := hl i (by simp)
    have px : (part 41 ((listOf c 81).map (Value.int .i32)).toArray (i * 1)).run Try.prog w = .ok (.int .i32 (c i)) w := by simp [part, isAgg, run_underlying he, listOf, hi]
    have py : (part 41 ((listOf d 81).map (Value.int .i32)).toArray (i * 1)).run Try.prog w = .ok (.int .i32 (d i)) w := by simp [part, isAgg, run_underlying he, listOf, hi]
    have pe : (Op.equalIn 9999 41 (.int .i32 (c i)) (.int .i32 (d i))).run Try.prog w = .ok (c i == d i) w := run_equalIn_int w 9998 _ .i32 .i32 _ _ he
    simp only [List.forIn_cons, Sem.run_bind, px, py, pe, Result.andThen_ok, List.all_cons]
    cases hb : (c i == d i)
    · simp
    · simp only [Bool.not_true, Bool.false_eq_true, if_false, Sem.run_pure, Result.andThen_ok, Bool.true_and]
      exact ih fun j hj => hl j (by simp [hj])
theorem load_row (b n : Nat) (c : Row) (w : World) (hz : ZoneAt w b n c) :
    (Instr.loadAt 64 (.pointer (some ⟨b, 1, none⟩))).run Try.prog w = .ok (.agg ((listOf c 81).map (Value.int .i32)).toArray) w := by
  refine run_loadAt_mid w b 1 _ _ (.array 81 41) ?_ (by kernel_rfl) rfl (by rw [List.length_map, listOf_len]; kernel_rfl)
  intro j v hv
  by_cases hj : j < 81
  · rw [hz.cell j hj]
    simp [listOf, hj] at hv
    simp [hv]
  · rw [List.getElem?_eq_none (by simp [listOf_len]; omega)] at hv
    cases hv
theorem includes_some (b o n : Nat) (c d : Row) (w : World) (hz : ZoneAt w b n c) (hy : ZoneAt w o n d) (hn : n ≤ 8) (hd : decide (d 0 < 1) = false) :
    Calls Try.prog 11 #[.pointer (some ⟨b, 0, none⟩), .pointer (some ⟨o, 0, none⟩)] w fun e w' => e = .returned (.bool (nless c d ((n + 1) * (n + 1)))) ∧ Below w.heap.size w w' := by
  have HA := hideD (alike_same b o n c d w hz hy)
  have HH : Hid (∀ w', Below w.heap.size w w' → Calls Try.prog 23 #[.pointer (some ⟨o, 0, none⟩)] w' fun e w'' => e = .returned (.bool (decide (d 0 < 1))) ∧ Below w'.heap.size w' w'') := fun w' hb => hollow_any o n d w' hn (hy.past hb)
  have HN : Hid (∀ w', Below w.heap.size w w' → Calls Try.prog 30 #[.pointer (some ⟨b, 0, none⟩), .pointer (some ⟨o, 0, none⟩)] w' fun e w'' => e = .returned (.bool (nless c d ((n + 1) * (n + 1)))) ∧ Below w'.heap.size w' w'') := fun w' hb => nless_any b o n c d w' hn (hz.past hb) (hy.past hb)
  generalize nless c d ((n + 1) * (n + 1)) = q at *
  clear hz hy
  rw [hd] at HH
  go_enter Try.func11, Try.ntmps11
  go_wp2_with fail
  refine HA.out.mono ?_
  rintro e w1 ⟨rfl, k, rfl⟩
  have B1 := hideD (below_draw w k)
  generalize w.drewN k = W at *
  go_wp2_with fail
  have B2 := B1.out
  go_region_held3 (fun w' => Below w.heap.size w w')
    (first | assumption | exact Below.drew (by assumption))
    (first
      | (go_at_call 23; refine (HH.out _ (by first | assumption | exact Below.drew (by assumption))).mono ?_; rintro e w' ⟨rfl, hb⟩; have h3 := beyondD (w := w) (by first | assumption | exact Below.drew (by assumption)) hb)
      | (go_at_call 30; refine (HN.out _ (by first | assumption | exact Below.drew (by assumption))).mono ?_; rintro e w' ⟨rfl, hb⟩; have h4 := beyondD (w := w) (by first | assumption | exact Below.drew (by assumption)) hb))
  all_goals
    go_wp2_with fail
    go_ret
    exact ⟨by first | rfl | simp, by assumption⟩
end Go.Proofs.Ytohkbjkfpnhggaa

/-
  What must be whatever is asked (live of the statements of dbm).
-/
namespace Go.Proofs.Ytohkbjkfpnhggaa
open Go.RowKit
set_option linter.unusedVariables false
set_option maxRecDepth 100000
theorem zero1 : (zoneR 1 (zeroR 1 (startR 1 (1 + 1) 0))).map (fun c => [c 0, c 1, c 2, c 3]) = some [1, 1, 1, 1] := by kernel_rfl
theorem univ1 : (zoneR 1 (startR 1 (1 + 1) 0)).map (fun c => [c 0, c 1, c 2, c 3]) = some [1, 1, 2147483647, 1] := by kernel_rfl
def scUpto (l m : List Int) : Nat → Bool
  | 0 => true
  | k + 1 => scUpto l m k && (l.getD k 0 == m.getD k 0)
theorem scUpto_false {l m : List Int} : ∀ {k : Nat} (n : Nat), k ≤ n → scUpto l m k = false → scUpto l m n = false := by
  intro k n h e
  induction n with
  | zero => obtain rfl : k = 0 := by omega
            exact e
  | succ n ih =>
    by_cases q : k = n + 1
    · subst q; exact e
    · simp [scUpto, ih (by omega)]
theorem sc_of_eq (l m : List Int) (n : Nat) (h : ∀ j, j < n → l.getD j 0 = m.getD j 0) : scUpto l m n = true := by
  induction n with
  | zero => rfl
  | succ n ih =>
    have := h n (by omega)
    simp only [scUpto, ih (fun j hj => h j (by omega)), this, beq_self_eq_true, Bool.and_self]
theorem list4 (c : Row) (a b d e : Int) (h : [c 0, c 1, c 2, c 3] = [a, b, d, e]) : listOf c ((1 + 1) * (1 + 1)) = [a, b, d, e] := h
theorem map_some {o : Option Row} {l : List Int} (h : o.map (fun c => [c 0, c 1, c 2, c 3]) = some l) : ∃ c, o = some c ∧ [c 0, c 1, c 2, c 3] = l := by
  cases o with
  | none => simp at h
  | some c => exact ⟨c, rfl, by simpa using h⟩
end Go.Proofs.Ytohkbjkfpnhggaa
