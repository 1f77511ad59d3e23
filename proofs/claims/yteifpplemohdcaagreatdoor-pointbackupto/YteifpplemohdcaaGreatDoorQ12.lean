/-
  The contract of zone: what becomes of a draft.
-/
import Derived.Test.YteifpplemohdcaaGreatDoorQ11
import Derived.Test.YteifpplemohdcaaGreatDoorChecked
import Derived.WalkKit
import Derived.WalkLawsBesides
import Derived.Laws.BitsLemmas
import Derived.OwnWalk
import Derived.Laws.AppendOwn
import Derived.Deep.OwnRows
import Derived.Deep.RegionLaw
import Derived.Laws.OwnMore
import Derived.Deep.MidRow
import Derived.Laws.StructEq
import Derived.Test.YteifpplemohdcaaGreatDoorQ7
import Derived.Deep.QuietTactic
import Derived.BigQuiet
namespace Go.Proofs.YteifpplemohdcaaGreatDoor
open Go.RowKit
set_option linter.unusedVariables false
set_option maxRecDepth 100000
set_option maxHeartbeats 1000000 in
theorem zone_some (b n : Nat) (r p : Mat) (w : World) (h : n ≤ 8) (hD : Draft w b n r) (e : closeR n r = some p) :
    Calls Tryz.prog 37 #[.pointer (some ⟨b, 0, none⟩)] w fun e w' => Below b w w' ∧
      ((narAll n p ((n + 1) * (n + 1)) = false ∧ e = .returned (.tuple #[.pointer none, .int .i64 10])) ∨
       (narAll n p ((n + 1) * (n + 1)) = true ∧ ∃ b', w.heap.size ≤ b' ∧ e = .returned (.tuple #[.pointer (some ⟨b', 0, none⟩), .int .i64 0]) ∧ ZoneAt w' b' n (cellsUpto n p ((n + 1) * (n + 1))))) := by
  have HC := hideD (close_any b n r w h hD)
  rw [e] at HC
  have hm : (n + 1) * (n + 1) ≤ 81 := Nat.mul_le_mul (show n + 1 ≤ 9 by omega) (show n + 1 ≤ 9 by omega)
  have HU : Hid (∀ bz w, w.cell? ⟨bz, 0, none⟩ = some (.int .i64 n) → Calls Tryz.prog 70 #[.pointer (some ⟨bz, 0, none⟩)] w fun e w' => e = .returned (.slice (some ⟨bz, 1, none⟩) ((n + 1) * (n + 1)) 81) ∧ Below w.heap.size w w') := fun bz w hz => used_any bz n w h hz
  have HQ : Hid (∀ k, k < (n + 1) * (n + 1) → k / (n + 1) ≤ n ∧ k % (n + 1) ≤ n) := fun k hk => ⟨by have := Nat.div_lt_of_lt_mul hk; omega, by have := Nat.mod_lt k (show 0 < n + 1 by omega); omega⟩
  generalize (n + 1) * (n + 1) = m at *
  have hm1 : (m : Int) ≤ 81 := by omega
  go_enter Tryz.func37, Tryz.ntmps37
  go_wp2_with fail
  refine HC.out.mono ?_
  rintro e' w1 ⟨rfl, hb, s, hs, hp⟩
  obtain rfl := hp p rfl
  have hcl := hs.clocks
  have hB1 := hideD hb
  have hD1 := hideD hs
  clear hb hs hp HC hD
  go_wp2_with fail
  refine (none_any n _).mono ?_
  rintro e' w2 ⟨rfl, hz, hb2, hs2⟩
  have hB2 := hideD (hB1.out.trans (hb2.mono (Nat.le_of_lt hD1.out.lt)))
  have hD2 := hideD (hD1.out.later hb2 hD1.out.lt)
  have hl := hideD hD1.out.lt
  have hsz := hideD hB1.out.size
  generalize w1.heap.size = bz at *
  have hZ := hideD hz
  have hcz := hz.clocks
  clear hz hb2 hB1 hD1 hs2
  go_wp2_with fail
  refine (HU.out _ _ hcz).mono ?_
  rintro e' w3 ⟨rfl, hb⟩
  have hZ3 := hideD (hZ.out.past hb)
  have hD3 := hideD (hD2.out.later hb hD2.out.lt)
  have hB3 := hideD (hB2.out.trans (hb.mono (Nat.le_of_lt hD2.out.lt)))
  clear hb hZ hD2 hB2 hcz
  go_wp2_with fail
  go_loopw [30] (fun s wr => ∃ (K : Nat), K ≤ m ∧ s = .int .i64 K ∧ Hid (narAll n p K = true) ∧ Hid (ZoneAt wr bz n (cellsUpto n p K)) ∧ Hid (Draft wr b n p) ∧ Hid (Below b w wr)) (fun s _ => m - (intOf s).toNat)
  case atStart => exact ⟨0, by omega, rfl, rfl, hZ3, hD3, hB3⟩
  case round =>
    obtain ⟨K, hK, rfl, hq, hZ, hD, hB⟩ := hrel
    clear hZ3 hD3 hB3
    by_cases ck : K < m
    · have HP : Hid (∀ w, Calls Tryz.prog 71 #[.agg #[.int .i64 n], .int .i64 K] w fun e w' => e = .returned (.tuple #[.int .i64 ((K / (n + 1) : Nat) : Int), .int .i64 ((K % (n + 1) : Nat) : Int)]) ∧ Below w.heap.size w w') := fun w => place_any n K w h (by omega)
      obtain ⟨i1, j1⟩ := HQ.out K ck
      have st : Hid (narAll n p (K + 1) = narOk (p (K / (n + 1)) (K % (n + 1)))) := by show narAll n p (K + 1) = _; simp [narAll, hq.out, flat]
      have nx := hideD (cells_next n p K)
      have nx : Hid (updR (cellsUpto n p K) K (narB (p (K / (n + 1)) (K % (n + 1)))) = cellsUpto n p (K + 1)) := nx
      generalize K / (n + 1) = i at *
      generalize K % (n + 1) = j at *
      have hcz := hZ.out.clocks
      have k0 : (0 : Int) ≤ (K : Int) := by omega
      have k1 : (K : Int) < 81 := by omega
      go_wp2_with fail
      refine (HP.out _).mono ?_
      rintro e' w4 ⟨rfl, hb⟩
      have hZ4 := hideD (hZ.out.past hb)
      have hD4 := hideD (hD.out.later hb hD.out.lt)
      have hB4 := hideD (hB.out.trans (hb.mono (Nat.le_of_lt hD.out.lt)))
      have h1 := hD4.out.cell i j (by omega) (by omega)
      have h2 := hZ4.out.cell K (by omega)
      have h3 := hZ4.out.free K (by omega)
      clear hb hZ hD hB hcz
      have HN : Hid (∀ w, Calls Tryz.prog 72 #[.int .i64 (p i j)] w fun e w' => e = .returned (.tuple #[.int .i32 (narB (p i j)), .bool (narOk (p i j))]) ∧ w' = w) := fun w => narrow_dbm _ w
      generalize p i j = x at *
      generalize narB x = y at *
      cases eo : narOk x with
      | false =>
        rw [eo] at HN st
        have st3 : Hid (narAll n p m = false) := narAll_false (k := K + 1) m (by omega) st.out
        go_wp2_with fail
        refine (HN.out _).mono ?_
        rintro e' w5 ⟨rfl, rfl⟩
        go_wp2_with fail
        refine bodyPost_ret (v := .tuple #[.pointer none, .int .i64 10]) (by simp [results, Tryz.results37, go_sem]) rfl ⟨hB4.out, .inl ⟨st3.out, rfl⟩⟩
      | true =>
        rw [eo] at HN st
        go_wp2_with fail
        refine (HN.out _).mono ?_
        rintro e' w5 ⟨rfl, rfl⟩
        go_wp2_with fail
        go_roundw
        case rel => exact ⟨K + 1, by omega, by go_num, st, by rw [← nx.out]; exact hZ4.out.set (by omega) _, hD4.out.later ((Below.refl bz _).setCell (Nat.le_refl _) _) hl.out, hB4.out.setCell (Nat.le_of_lt hl.out) _⟩
        case measure => simp [intOf]; omega
    · have st : Hid (K = m) := by show K = m; omega
      have hq' : Hid (narAll n p m = true) := by have e := st.out; subst e; exact hq
      have hZ' : Hid (ZoneAt wr bz n (cellsUpto n p m)) := by have e := st.out; subst e; exact hZ
      go_wp2_with fail
      refine bodyPost_ret (v := .tuple #[.pointer (some ⟨bz, 0, none⟩), .int .i64 0]) (by simp [results, Tryz.results37, go_sem]) rfl ⟨hB.out, .inr ⟨hq'.out, bz, hsz.out, rfl, hZ'.out⟩⟩
/-- What becomes of a draft. -/
def ZoneOut (w' : World) (B n : Nat) (e : Ending) : Option Row → Prop
  | none => e = .returned (.tuple #[.pointer none, .int .i64 10])
  | some c => ∃ b', B ≤ b' ∧ e = .returned (.tuple #[.pointer (some ⟨b', 0, none⟩), .int .i64 0]) ∧ ZoneAt w' b' n c
theorem zone_any (b n : Nat) (r : Mat) (w : World) (h : n ≤ 8) (hD : Draft w b n r) :
    Calls Tryz.prog 37 #[.pointer (some ⟨b, 0, none⟩)] w fun e w' => ZoneOut w' w.heap.size n e (zoneR n r) ∧ Below b w w' := by
  cases e : closeR n r with
  | none =>
    refine (zone_none b n r w h hD e).mono ?_
    rintro e' w' ⟨b', hb, rfl, hz, hB⟩
    have ez : zoneR n r = some (fun _ => 0) := by simp [zoneR, e]
    rw [ez]
    exact ⟨⟨b', hb, rfl, hz⟩, hB⟩
  | some p =>
    refine (zone_some b n r p w h hD e).mono ?_
    rintro e' w' ⟨hB, ⟨hn, rfl⟩ | ⟨hn, b', hb, rfl, hz⟩⟩
    · have ez : zoneR n r = none := by simp [zoneR, e, hn]
      rw [ez]
      exact ⟨rfl, hB⟩
    · have ez : zoneR n r = some (cellsUpto n p ((n + 1) * (n + 1))) := by simp [zoneR, e, hn]
      rw [ez]
      exact ⟨⟨b', hb, rfl, hz⟩, hB⟩
end Go.Proofs.YteifpplemohdcaaGreatDoor

/-
  The contracts of the smallest functions of package bound and of the document's answer beside it (of, AtMost, LessThan, Right, Value, number): for every argument each returns what the plain functions below say, and the world stays.
-/
namespace Go.Proofs.YteifpplemohdcaaGreatDoor
open Go.RowKit

/-! ### The plain functions -/
def rightB (b : Int) : Bool := decide (b = 2147483647 ∨ (-536870912 ≤ b ∧ b ≤ 536870913))
def finB (b : Int) : Bool := decide (-536870912 ≤ b ∧ b ≤ 536870913)
def valV (b : Int) : Int := if finB b then b / 2 else 0
def valR (b : Int) : Bool := finB b && decide (b % 2 = 1)

theorem right_of_fin {b : Int} (h : finB b = true) : rightB b = true := by
  simp only [finB, rightB, decide_eq_true_eq] at *; exact .inr h
theorem fin_iff (b : Int) : finB b = true ↔ (-536870912 ≤ b ∧ b ≤ 536870913) := by simp [finB]

theorem i32_and1 (n : Int) : bits .and .i32 n 1 = n % 2 := by
  have h1 : (BitVec.ofInt 32 1).toNat = 2 ^ 1 - 1 := by decide
  have key : (BitVec.ofInt 32 n &&& BitVec.ofInt 32 1).toNat = (n % ((2 ^ 32 : Nat) : Int)).toNat % 2 ^ 1 := by
    rw [BitVec.toNat_and, BitVec.toNat_ofInt, h1, Nat.and_two_pow_sub_one_eq_mod]
  show IntKind.i32.wrap ((BitVec.ofInt 32 n &&& BitVec.ofInt 32 1).toNat : Nat) = n % 2
  rw [key, IntKind.wrap_i32]
  omega

/-! ### of -/
/-! ### The answer's of -/
/-! ### number, Right, Value -/
theorem right_any (b : Int) (w : World) :
    Calls Tryz.prog 35 #[.int .i32 b] w fun e w' => e = .returned (.bool (rightB b)) ∧ w' = w := by
  by_cases h : b = 2147483647
  · subst h
    go_enter Tryz.func35, Tryz.ntmps35
    go_wp2
    go_ret
    exact ⟨rfl, rfl⟩
  · have hb : (b == 2147483647) = false := by simpa using h
    by_cases l : -536870912 ≤ b
    · by_cases u : b ≤ 536870913
      · have e : rightB b = true := by simp [rightB, l, u]
        rw [e]
        clear e
        go_enter Tryz.func35, Tryz.ntmps35
        go_wp2
        go_ret
        exact ⟨rfl, rfl⟩
      · have e : rightB b = false := by simp [rightB, h, u]
        rw [e]
        clear e
        go_enter Tryz.func35, Tryz.ntmps35
        go_wp2
        go_ret
        exact ⟨rfl, rfl⟩
    · have e : rightB b = false := by simp [rightB, h, l]
      rw [e]
      clear e
      go_enter Tryz.func35, Tryz.ntmps35
      go_wp2
      go_ret
      exact ⟨rfl, rfl⟩

theorem value_inf (w : World) :
    Calls Tryz.prog 48 #[.int .i32 2147483647] w fun e w' => e = .returned (.tuple #[.int .i64 0, .bool false, .bool false]) ∧ w' = w := by
  go_enter Tryz.func48, Tryz.ntmps48
  go_wp2_with fail
  go_ret3
  exact ⟨rfl, rfl⟩
theorem value_any (b : Int) (w : World) :
    Calls Tryz.prog 48 #[.int .i32 b] w fun e w' => e = .returned (.tuple #[.int .i64 (valV b), .bool (valR b), .bool (finB b)]) ∧ w' = w := by
  by_cases h : b = 2147483647
  · subst h
    exact value_inf w
  · have hb : (b == 2147483647) = false := by simpa using h
    by_cases f : finB b = true
    · have r := right_of_fin f
      have l := (fin_iff b).1 f
      have l0 := l.1
      have l1 := l.2
      have e1 : valV b = b / 2 := by simp [valV, f]
      have e2 : valR b = (bits BinOp.and IntKind.i32 b 1 == 1) := by rw [i32_and1]; simp [valR, f]; rfl
      rw [e1, e2, f]
      clear e1 e2 f l
      go_enter Tryz.func48, Tryz.ntmps48
      go_wp2_with (go_at_call 35; refine (right_any _ _).mono ?_; rintro e w' ⟨rfl, rfl⟩)
      go_ret3
      exact ⟨rfl, rfl⟩
    · have f : finB b = false := by simpa using f
      have r : rightB b = false := by
        simp only [finB, rightB, decide_eq_false_iff_not] at *
        omega
      have e1 : valV b = 0 := by simp [valV, f]
      have e2 : valR b = false := by simp [valR, f]
      rw [e1, e2, f]
      clear e1 e2 f
      go_enter Tryz.func48, Tryz.ntmps48
      go_wp2_with (go_at_call 35; refine (right_any _ _).mono ?_; rintro e w' ⟨rfl, rfl⟩)
      go_ret3
      exact ⟨rfl, rfl⟩

end Go.Proofs.YteifpplemohdcaaGreatDoor

/-
  The contract of dbm.Of.
-/
namespace Go.Proofs.YteifpplemohdcaaGreatDoor
open Go.RowKit
set_option linter.unusedVariables false
set_option maxRecDepth 100000
def tg (r : Mat) (i j : Nat) (x : Int) : Mat := if x = 2147483647 then r else upd r i j (min (r i j) x)
theorem tighten_any (b n i j : Nat) (r : Mat) (x : Int) (w : World) (hD : Draft w b n r) (i1 : i ≤ 8) (j1 : j ≤ 8) (x0 : -2147483648 ≤ x) (x1 : x ≤ 2147483647) :
    Calls Tryz.prog 36 #[.pointer (some ⟨b, 0, none⟩), .int .i64 i, .int .i64 j, .int .i32 x] w fun e w' => e = .returned (.tuple #[]) ∧ Draft w' b n (tg r i j x) ∧ Below b w w' := by
  by_cases hx : x = 2147483647
  · subst hx
    refine (tighten_inf _ _ _ w).mono ?_
    rintro e w' ⟨rfl, rfl⟩
    exact ⟨rfl, by simpa [tg] using hD, Below.refl _ _⟩
  · refine (tighten_fin b i j x (r i j) w i1 j1 (by simpa using hx) x0 x1 (hD.cell i j i1 j1) (hD.free i j i1 j1)).mono ?_
    rintro e w' ⟨rfl, rfl⟩
    refine ⟨rfl, ?_, Below.drew (Below.setCell (p := at9 b i j) (Below.refl b w) (Nat.le_refl _) _)⟩
    simp only [tg, if_neg hx]
    exact (hD.set i1 j1 _).drew
/-- A row of bounds in memory. -/
def RowAt (w : World) (b off : Nat) (l : List Int) : Prop := ∀ j, j < l.length → w.cell? ⟨b, off + j, none⟩ = some (.int .i32 (l.getD j 0))
abbrev errOf (e : Int) : Ending := .returned (.tuple #[.pointer none, .int .i64 e])
theorem mayYes (n : Nat) (w : World) (h : n ≤ 8) : Calls Tryz.prog 32 #[.int .i64 n] w fun e w' => e = .returned (.bool true) ∧ w' = w := by
  have := mayHave_any n w
  rw [decide_eq_true ⟨by omega, by omega⟩] at this
  exact this
end Go.Proofs.YteifpplemohdcaaGreatDoor

/-
  The contracts of Zone.Cells, Includes, Equal, Key.
-/
namespace Go.Proofs.YteifpplemohdcaaGreatDoor
open Go.RowKit
set_option linter.unusedVariables false
set_option maxRecDepth 100000
theorem info_bd : (Tryz.prog.info? 41).map (fun i => (i.zero, i.size, i.bytes)) = some (some (.int .i32 0), 1, 4) := by kernel_rfl
/-- The used cells, as a list. -/
def listOf (c : Row) (m : Nat) : List Int := (List.range m).map c
theorem listOf_len (c : Row) (m : Nat) : (listOf c m).length = m := by simp [listOf]
theorem listOf_get (c : Row) (m j : Nat) (h : j < m) : (listOf c m).getD j 0 = c j := by simp [listOf, List.getD, h]
/-- A row that the call made itself. -/
def OwnRow (w : World) (B : Nat) (v : Value) (l : List Int) : Prop := ∃ g cap, v = .slice (some ⟨g, 0, none⟩) l.length cap ∧ B ≤ g ∧ g < w.heap.size ∧ RowAt w g 0 l
set_option maxHeartbeats 1000000 in
theorem cells_any (b n : Nat) (c : Row) (w : World) (hz : ZoneAt w b n c) (hn : n ≤ 8) :
    Calls Tryz.prog 81 #[.pointer (some ⟨b, 0, none⟩)] w fun e w' => (∃ v, e = .returned v ∧ OwnRow w' w.heap.size v (listOf c ((n + 1) * (n + 1)))) ∧ Below w.heap.size w w' := by
  have HU := hideD (used_any b n w hn hz.clocks)
  have hm : (n + 1) * (n + 1) ≤ 81 := Nat.mul_le_mul (show n + 1 ≤ 9 by omega) (show n + 1 ≤ 9 by omega)
  have hp : 0 < (n + 1) * (n + 1) := Nat.mul_pos (by omega) (by omega)
  generalize (n + 1) * (n + 1) = m at *
  have hl := listOf_len c m
  obtain ⟨i0, hi, hz0, hz1, hz2⟩ := info_parts info_bd
  have HZ := hideD hz
  clear hz
  go_enter Tryz.func81, Tryz.ntmps81
  go_wp2_with fail
  refine HU.out.mono ?_
  rintro e w1 ⟨rfl, hb⟩
  have hZ1 := hideD (HZ.out.past hb)
  have hB1 := hideD hb
  have HN : Hid (∀ j u, ((listOf c m).map (Value.int .i32))[j]? = some u → w1.cell? ((⟨b, 1, none⟩ : Addr).add j) = some u) := by
    intro j u hu
    rw [Addr.add_lit]
    by_cases hj : j < m
    · rw [hZ1.out.cell j (by omega)]
      simp [listOf, hj] at hu
      simp [hu]
    · rw [List.getElem?_eq_none (by simp [hl]; omega)] at hu
      cases hu
  clear hb HU HZ
  go_wp2_with (at_builtin; refine wpList_append_own _ rfl _ _ 118 rfl w1.heap.size 41 i0 (.int .i32 0) 1 4 Tryz.underlying118 hi hz0 hz1 hz2 rfl (by decide) _ 0 [] rfl (World.ownsRow_nil _ _ _ _) ⟨b, 1, none⟩ m 81 ((listOf c m).map (Value.int .i32)) rfl (by simp [hl]) HN.out (fun x hx => by obtain ⟨z, _, rfl⟩ := List.mem_map.1 hx; rfl) (by unfold maxLen; omega) (by omega) (Nat.le_refl _) ?_; intro v' w2 hown hgrow hnil)
  have hb2 : Below w1.heap.size w1 w2 := (Below.refl _ _).grown hgrow (Nat.le_refl _) (by intro k hk; cases hk)
  go_ret
  refine ⟨⟨v', rfl, ?_⟩, beyondD hB1.out hb2⟩
  rcases hown.2 with ⟨rfl, hn0⟩ | ⟨g, cap, cur, rfl, hg, h2, h3, h4, h5, h6⟩
  · exfalso
    simp at hn0
    omega
  · have hrow : RowAt w2 g 0 (listOf c m) := fun j hj => by
      have hc := World.ownsRow.cells hown (g := g) rfl j (.int .i32 ((listOf c m).getD j 0)) (by simp [List.getD, hj])
      rw [Addr.add_lit] at hc
      exact hc
    refine ⟨g, cap, by rw [hl]; simp, Nat.le_trans hB1.out.size hg, ?_, hrow⟩
    exact World.block_lt_of_cell? _ _ (hrow 0 (by rw [hl]; exact hp))
end Go.Proofs.YteifpplemohdcaaGreatDoor

/-
  Closing, in numbers: what one round does, that sums of bounds are monotone and associative, that what is closed keeps the inequality of triangles, and that it holds of the same valuations.
-/
namespace Go.Proofs.YteifpplemohdcaaGreatDoor
open Go.RowKit
set_option linter.unusedVariables false
set_option maxRecDepth 100000
theorem opn_val : opn = 4611686018427387904 := rfl
/-! ### One round -/
/-! ### The inequality of triangles -/
end Go.Proofs.YteifpplemohdcaaGreatDoor

/-
  Fractions against bounds: by whole parts and rests, and by one division of whole numbers.
-/
namespace Go.Proofs.YteifpplemohdcaaGreatDoor
open Go.RowKit
set_option linter.unusedVariables false
--BEGIN
/-- A less b against a number, whole parts first. -/
def gapV (an ad bn bd n : Int) : Int := if an / ad - bn / bd < n then -1 else if n < an / ad - bn / bd then 1 else cmpV (an % ad) ad (bn % bd) bd
def keepB (b an ad bn bd : Int) : Bool := !finB b || (decide (gapV an ad bn bd (valV b) < 0) || (decide (gapV an ad bn bd (valV b) = 0) && valR b))
end Go.Proofs.YteifpplemohdcaaGreatDoor
