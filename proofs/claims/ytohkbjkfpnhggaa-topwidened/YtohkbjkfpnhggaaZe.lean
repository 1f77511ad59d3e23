/-
  The document's answer for layer 3: the sum of two wide bounds, and the wide cells of a row.
-/
import Derived.Test.YtohkbjkfpnhggaaZd
import Derived.Laws.BitsLemmas
import Derived.Laws.OwnMore
import Derived.Deep.OwnRows
import Derived.Deep.RegionLaw
namespace Go.Proofs.Ytohkbjkfpnhggaa
open Go.RowKit
set_option linter.unusedVariables false
set_option maxRecDepth 100000
theorem i64_and1 (n : Int) : bits .and .i64 n 1 = n % 2 := by
  have h1 : (BitVec.ofInt 64 1).toNat = 2 ^ 1 - 1 := by decide
  have key : (BitVec.ofInt 64 n &&& BitVec.ofInt 64 1).toNat = (n % ((2 ^ 64 : Nat) : Int)).toNat % 2 ^ 1 := by
    rw [BitVec.toNat_and, BitVec.toNat_ofInt, h1, Nat.and_two_pow_sub_one_eq_mod]
  show IntKind.i64.wrap ((BitVec.ofInt 64 n &&& BitVec.ofInt 64 1).toNat : Nat) = n % 2
  rw [key, IntKind.wrap_i64]
  omega
theorem i64_or_odd (a b : Int) : bits .or .i64 a b % 2 = if a % 2 = 1 ∨ b % 2 = 1 then 1 else 0 := by
  have key : (BitVec.ofInt 64 a ||| BitVec.ofInt 64 b).toNat % 2 = 1 ↔ (a % ((2 ^ 64 : Nat) : Int)).toNat % 2 = 1 ∨ (b % ((2 ^ 64 : Nat) : Int)).toNat % 2 = 1 := by
    rw [BitVec.toNat_or, BitVec.toNat_ofInt, BitVec.toNat_ofInt, Nat.or_mod_two_eq_one]
  show IntKind.i64.wrap ((BitVec.ofInt 64 a ||| BitVec.ofInt 64 b).toNat : Nat) % 2 = _
  rw [IntKind.wrap_i64]
  generalize (BitVec.ofInt 64 a ||| BitVec.ofInt 64 b).toNat = x at *
  split <;> omega
def rplus (a b : Int) : Int := if a = opn ∨ b = opn then opn else if ¬ a.tmod 2 = 0 ∨ ¬ b.tmod 2 = 0 then wrap64 (wrap64 (a + b) - 1) else wrap64 (a + b)
theorem wrap_wrap (x : Int) : wrap64 (wrap64 x - 0) = wrap64 x := by unfold wrap64; omega
theorem rplus_eq (a b : Int) : rplus a b = dplus a b := by
  unfold rplus dplus
  split
  · rfl
  · rw [i64_and1, i64_or_odd]
    have ha : (¬ a.tmod 2 = 0) ↔ a % 2 = 1 := by have := Int.emod_two_eq a; have := Int.mul_tdiv_add_tmod a 2; have := Int.lt_tmod_of_pos a (show (0 : Int) < 2 by decide); have := Int.tmod_lt_of_pos a (show (0 : Int) < 2 by decide); omega
    have hb : (¬ b.tmod 2 = 0) ↔ b % 2 = 1 := by have := Int.emod_two_eq b; have := Int.mul_tdiv_add_tmod b 2; have := Int.lt_tmod_of_pos b (show (0 : Int) < 2 by decide); have := Int.tmod_lt_of_pos b (show (0 : Int) < 2 by decide); omega
    simp only [ha, hb]
    split
    · rfl
    · exact (wrap_wrap _).symm
end Go.Proofs.Ytohkbjkfpnhggaa

/-
  The document's answer for layer 3: the wide cells of a row.
-/
namespace Go.Proofs.Ytohkbjkfpnhggaa
open Go.RowKit
set_option linter.unusedVariables false
set_option maxRecDepth 100000
theorem info_i64 : (Try.prog.info? 2).map (fun i => (i.zero, i.size, i.bytes)) = some (some (.int .i64 0), 1, 8) := by kernel_rfl
def wideV (x : Int) : Int := if x = 2147483647 then 4611686018427387904 else x
def wideL (l : List Int) (k : Nat) : List Int := (l.take k).map wideV
theorem wideL_next (l : List Int) (k : Nat) (h : k < l.length) : wideL l (k + 1) = wideL l k ++ [wideV (l.getD k 0)] := by
  unfold wideL
  rw [List.take_succ_eq_append_getElem h, List.map_append]
  congr 1
  simp [List.getD, h]
theorem wideL_len (l : List Int) (k : Nat) (h : k ≤ l.length) : (wideL l k).length = k := by simp [wideL]; omega
end Go.Proofs.Ytohkbjkfpnhggaa

/-
  The document's answer for layer 3: the closed form of wide cells.
-/
namespace Go.Proofs.Ytohkbjkfpnhggaa
open Go.RowKit
set_option linter.unusedVariables false
set_option maxRecDepth 100000
/-- A matrix of wide cells in a row of memory. -/
structure MatAt (w : World) (g n : Nat) (r : Mat) : Prop where
  cell : ∀ i j, i ≤ n → j ≤ n → w.cell? ⟨g, i * (n + 1) + j, none⟩ = some (.int .i64 (r i j))
  free : ∀ i j, i ≤ n → j ≤ n → w.frozen? ⟨g, i * (n + 1) + j, none⟩ = false
theorem pos_inj {n i j a c : Nat} (hj : j ≤ n) (hc : c ≤ n) (h : i * (n + 1) + j = a * (n + 1) + c) : i = a ∧ j = c := by
  have h1 : (i * (n + 1) + j) / (n + 1) = i := by rw [Nat.mul_comm, Nat.mul_add_div (by omega), Nat.div_eq_of_lt (by omega)]; rfl
  have h2 : (a * (n + 1) + c) / (n + 1) = a := by rw [Nat.mul_comm, Nat.mul_add_div (by omega), Nat.div_eq_of_lt (by omega)]; rfl
  have e : i = a := by rw [← h1, h, h2]
  subst e
  exact ⟨rfl, by omega⟩
theorem pos_lt {n i j : Nat} (hi : i ≤ n) (hj : j ≤ n) : i * (n + 1) + j < (n + 1) * (n + 1) := by
  have := Nat.mul_le_mul_right (n + 1) (show i + 1 ≤ n + 1 by omega)
  rw [Nat.add_mul] at this
  omega
theorem MatAt.set {w : World} {g n : Nat} {r : Mat} (h : MatAt w g n r) {i j : Nat} (hi : i ≤ n) (hj : j ≤ n) (v : Int) : MatAt (w.setCell ⟨g, i * (n + 1) + j, none⟩ (.int .i64 v)) g n (upd r i j v) := by
  refine ⟨?_, ?_⟩
  · intro a c ha hc
    by_cases e : a = i ∧ c = j
    · obtain ⟨rfl, rfl⟩ := e
      rw [World.cell?_setCell_same _ _ _ (h.cell a c ha hc)]
      simp [upd]
    · rw [World.cell?_setCell_other _ _ _ _ (by intro q; injection q with q1 q2; exact e ⟨(pos_inj hj hc q2).1.symm, (pos_inj hj hc q2).2.symm⟩), h.cell a c ha hc]
      simp [upd, e]
  · intro a c ha hc
    rw [World.frozen?_setCell]
    exact h.free a c ha hc
theorem MatAt.drewN {w : World} {g n : Nat} {r : Mat} (h : MatAt w g n r) (k : Nat) : MatAt (w.drewN k) g n r := ⟨h.cell, h.free⟩
theorem MatAt.drew {w : World} {g n : Nat} {r : Mat} (h : MatAt w g n r) : MatAt w.drew g n r := ⟨h.cell, h.free⟩
def rcStep (k i j : Nat) (r : Mat) : Mat := if dplus (r i k) (r k j) < r i j then upd r i j (dplus (r i k) (r k j)) else r
def rcRow (k i : Nat) : Nat → Mat → Mat
  | 0, r => r
  | c + 1, r => rcStep k i c (rcRow k i c r)
def rcAll (k n : Nat) : Nat → Mat → Mat
  | 0, r => r
  | c + 1, r => rcRow k c (n + 1) (rcAll k n c r)
def rcl (n : Nat) : Nat → Mat → Option Mat
  | 0, r => some r
  | c + 1, r => (rcl n c r).bind fun q => if diagOk n (rcAll c n (n + 1) q) (n + 1) then some (rcAll c n (n + 1) q) else none
theorem rcl_none {n : Nat} {r : Mat} : ∀ {c : Nat} (d : Nat), c ≤ d → rcl n c r = none → rcl n d r = none := by
  intro c d h e
  induction d with
  | zero => obtain rfl : c = 0 := by omega
            exact e
  | succ d ih =>
    by_cases q : c = d + 1
    · subst q; exact e
    · simp [rcl, ih (by omega)]
end Go.Proofs.Ytohkbjkfpnhggaa

/-
  Both ways of closing are one: the program's, which gives up at the first clock that would be less than itself, and the document's, which looks behind each round.
-/
namespace Go.Proofs.Ytohkbjkfpnhggaa
open Go.RowKit
set_option linter.unusedVariables false
def One (n : Nat) (p : Mat) : Prop := ∀ i, i ≤ n → p i i = 1
def Bad (n : Nat) (p : Mat) : Prop := ∃ i, i ≤ n ∧ p i i < 1
theorem rcStep_le (k i j : Nat) (p : Mat) (a : Nat) : rcStep k i j p a a ≤ p a a := by
  unfold rcStep
  split
  · unfold upd
    split
    · rename_i h e
      obtain ⟨rfl, rfl⟩ := e
      omega
    · omega
  · omega
theorem Bad.step {n : Nat} {p : Mat} (h : Bad n p) (k i j : Nat) : Bad n (rcStep k i j p) := by
  obtain ⟨a, ha, hb⟩ := h
  exact ⟨a, ha, by have := rcStep_le k i j p a; omega⟩
theorem Bad.row {n : Nat} {p : Mat} (h : Bad n p) (k i c : Nat) : Bad n (rcRow k i c p) := by
  induction c with
  | zero => exact h
  | succ c ih => exact ih.step _ _ _
theorem Bad.all {n : Nat} {p : Mat} (h : Bad n p) (k m c : Nat) : Bad n (rcAll k m c p) := by
  induction c with
  | zero => exact h
  | succ c ih => exact ih.row _ _ _
theorem step_both {n : Nat} {p : Mat} (h : One n p) (k i j : Nat) (hi : i ≤ n) (hj : j ≤ n) :
    (cbStep k i j p = some (rcStep k i j p) ∧ One n (rcStep k i j p)) ∨ (cbStep k i j p = none ∧ Bad n (rcStep k i j p)) := by
  unfold cbStep rcStep
  by_cases c : p i j ≤ dplus (p i k) (p k j)
  · rw [if_pos c, if_neg (by omega)]
    exact .inl ⟨rfl, h⟩
  · have c' : dplus (p i k) (p k j) < p i j := by omega
    rw [if_neg c, if_pos c']
    by_cases e : i = j
    · subst e
      rw [if_pos rfl]
      refine .inr ⟨rfl, i, hi, ?_⟩
      have := h i hi
      simp [upd]
      omega
    · rw [if_neg e]
      refine .inl ⟨rfl, fun a ha => ?_⟩
      have : ¬ (a = i ∧ a = j) := by omega
      simp [upd, this]
      exact h a ha
theorem row_both {n : Nat} {p : Mat} (h : One n p) (k i : Nat) (hi : i ≤ n) (c : Nat) (hc : c ≤ n + 1) :
    (cbRow k i c p = some (rcRow k i c p) ∧ One n (rcRow k i c p)) ∨ (cbRow k i c p = none ∧ Bad n (rcRow k i c p)) := by
  induction c with
  | zero => exact .inl ⟨rfl, h⟩
  | succ c ih =>
    rcases ih (by omega) with ⟨e, o⟩ | ⟨e, b⟩
    · rcases step_both o k i c hi (by omega) with ⟨e2, o2⟩ | ⟨e2, b2⟩
      · exact .inl ⟨by simp [cbRow, e, e2, rcRow], o2⟩
      · exact .inr ⟨by simp [cbRow, e, e2], b2⟩
    · exact .inr ⟨by simp [cbRow, e], b.step _ _ _⟩
theorem all_both {n : Nat} {p : Mat} (h : One n p) (k c : Nat) (hc : c ≤ n + 1) :
    (cbAll k n c p = some (rcAll k n c p) ∧ One n (rcAll k n c p)) ∨ (cbAll k n c p = none ∧ Bad n (rcAll k n c p)) := by
  induction c with
  | zero => exact .inl ⟨rfl, h⟩
  | succ c ih =>
    rcases ih (by omega) with ⟨e, o⟩ | ⟨e, b⟩
    · rcases row_both o k c (by omega) (n + 1) (Nat.le_refl _) with ⟨e2, o2⟩ | ⟨e2, b2⟩
      · exact .inl ⟨by simp [cbAll, e, e2, rcAll], o2⟩
      · exact .inr ⟨by simp [cbAll, e, e2], b2⟩
    · exact .inr ⟨by simp [cbAll, e], b.row _ _ _⟩
theorem diagOk_iff (n : Nat) (p : Mat) (c : Nat) : diagOk n p c = true ↔ ∀ i, i < c → 1 ≤ p i i := by
  induction c with
  | zero => simp [diagOk]
  | succ c ih =>
    simp only [diagOk, Bool.and_eq_true, ih, decide_eq_true_eq]
    constructor
    · rintro ⟨a, b⟩ i hi
      by_cases e : i = c
      · subst e; exact b
      · exact a i (by omega)
    · intro h
      exact ⟨fun i hi => h i (by omega), h c (by omega)⟩
theorem One.ok {n : Nat} {p : Mat} (h : One n p) : diagOk n p (n + 1) = true := (diagOk_iff _ _ _).2 fun i hi => by have := h i (by omega); omega
theorem Bad.no {n : Nat} {p : Mat} (h : Bad n p) : diagOk n p (n + 1) = false := by
  cases e : diagOk n p (n + 1)
  · rfl
  · obtain ⟨i, hi, hb⟩ := h
    have := (diagOk_iff _ _ _).1 e i (by omega)
    omega
theorem rounds_both {n : Nat} {r : Mat} (h : One n r) (c : Nat) (hc : c ≤ n + 1) : clAll n c r = rcl n c r ∧ ∀ q, rcl n c r = some q → One n q := by
  induction c with
  | zero => exact ⟨rfl, fun q e => by simp [rcl] at e; subst e; exact h⟩
  | succ c ih =>
    obtain ⟨e, o⟩ := ih (by omega)
    cases er : rcl n c r with
    | none => simp [clAll, rcl, e, er]
    | some q =>
      rcases all_both (o q er) c (n + 1) (Nat.le_refl _) with ⟨e2, o2⟩ | ⟨e2, b2⟩
      · have k := o2.ok
        refine ⟨by simp [clAll, rcl, e, er, e2, k], fun q' h' => ?_⟩
        simp [rcl, er, k] at h'
        subst h'
        exact o2
      · have k := b2.no
        exact ⟨by simp [clAll, rcl, e, er, e2, k], fun q' h' => by simp [rcl, er, k] at h'⟩
/-- A matrix whose own differences are at most 0 is closed alike by both. -/
theorem close_both {n : Nat} {r : Mat} (h : ∀ i, i ≤ n → r i i ≤ 1) : closeR n r = rcl n (n + 1) r := by
  unfold closeR
  cases d : diagOk n r (n + 1)
  · simp only [Bool.false_eq_true, if_false]
    have b : Bad n r := by
      apply Classical.byContradiction
      intro hb
      have : diagOk n r (n + 1) = true := (diagOk_iff _ _ _).2 fun i hi => by
        apply Classical.byContradiction
        intro q
        exact hb ⟨i, by omega, by omega⟩
      rw [this] at d
      cases d
    symm
    refine rcl_none (c := 1) (n + 1) (by omega) ?_
    have k := (b.all 0 n (n + 1)).no
    simp [rcl, k]
  · simp only [if_true]
    have o : One n r := fun i hi => by
      have := (diagOk_iff _ _ _).1 d i (by omega)
      have := h i hi
      omega
    exact (rounds_both o (n + 1) (Nat.le_refl _)).1
end Go.Proofs.Ytohkbjkfpnhggaa

/-
  The document's answer for layer 3: the empty zone.
-/
namespace Go.Proofs.Ytohkbjkfpnhggaa
open Go.RowKit
set_option linter.unusedVariables false
set_option maxRecDepth 100000
/-- A zone of the document in memory: its clocks, and its cells in a row of their own. -/
def RZone (w : World) (B b n : Nat) (l : List Int) : Prop := ∃ g cap, w.cell? ⟨b, 0, none⟩ = some (.int .i64 n) ∧ w.cell? ⟨b, 1, none⟩ = some (.slice (some ⟨g, 0, none⟩) l.length cap) ∧ B ≤ b ∧ B ≤ g ∧ RowAt w g 0 l
/-! ### made -/
theorem step_own {P : Program} {ops : Array Oper} {o : Oper} {a : Act} {w : World} {K : Act → World → Prop} {Q : Exit → Act → World → Prop} {E : Prop} (hgd : o.guard = none) (s x : Operand) (t : TypeId)
    (ho : o.op = .call { callee := .builtin .append, args := #[s, x], argTypes := #[t, t] })
    (base : Nat) (e : TypeId) (i : TypeInfo) (z : Value) (size bytes : Nat) (ht : P.underlying t = some (.slice e)) (hi : P.info? e = some i) (hz : i.zero = some z)
    (hsize : i.size = size) (hby : i.bytes = bytes) (hzs : z.cells.size = size) (hsz : 0 < size)
    (v : Value) (n : Nat) (xs : List Value) (hs : a.eval s = v) (hown : w.ownsRow base e size v n xs)
    (ad : Addr) (m c : Nat) (news : List Value) (hx : a.eval x = .slice (some ad) m c) (hl : news.length = m * size) (hnews : ∀ j u, news[j]? = some u → w.cell? (ad.add j) = some u) (h1 : ∀ u ∈ news, u.oneCell' = true)
    (h63 : n + m ≤ maxLen) (hbytes : (n + m) * bytes ≤ 140737488355328) (hbase : base ≤ w.heap.size)
    (hK : ∀ v' w', w'.ownsRow base e size v' (n + m) (xs ++ news) → w.grownBy w' v.ownBlock → K (a.put o.dst v') w') :
    if Region.wanted o (yielded ops a.tmps) = true then Oper.wp P o a w K Q else E := by
  have hw : Region.wanted o (yielded ops a.tmps) = true := by simp [Region.wanted, hgd]
  rw [if_pos hw]
  exact wp_append_own w s x t ho base e i z size bytes ht hi hz hsize hby hzs hsz v n xs hs hown ad m c news hx hl hnews h1 h63 hbytes hbase fun v' w' h2 h3 _ => hK v' w' h2 h3
theorem MatAt.cell0 {w : World} {g n : Nat} {r : Mat} (h : MatAt w g n r) {j : Nat} (hj : j ≤ n) : w.cell? ⟨g, j, none⟩ = some (.int .i64 (r 0 j)) ∧ w.frozen? ⟨g, j, none⟩ = false := by
  have a := h.cell 0 j (by omega) hj
  have b := h.free 0 j (by omega) hj
  simp only [Nat.zero_mul, Nat.zero_add] at a b
  exact ⟨a, b⟩
theorem MatAt.set0 {w : World} {g n : Nat} {r : Mat} (h : MatAt w g n r) {j : Nat} (hj : j ≤ n) (v : Int) : MatAt (w.setCell ⟨g, j, none⟩ (.int .i64 v)) g n (upd r 0 j v) := by
  have a := h.set (show 0 ≤ n by omega) hj v
  simp only [Nat.zero_mul, Nat.zero_add] at a
  exact a
def clipD (i : Nat) (r : Mat) : Mat := if 1 < r i i then upd r i i 1 else r
def clip0 (i : Nat) (r : Mat) : Mat := if 1 < r 0 i then upd r 0 i 1 else r
def clipAll : Nat → Mat → Mat
  | 0, r => r
  | c + 1, r => clip0 c (clipD c (clipAll c r))
/-- The cells of a closed matrix, as a list. -/
def nl (n : Nat) (p : Mat) (k : Nat) : List Int := (List.range k).map fun i => narB (flat n p i)
theorem nl_next (n : Nat) (p : Mat) (k : Nat) : nl n p (k + 1) = nl n p k ++ [narB (flat n p k)] := by simp [nl, List.range_succ]
theorem nl_len (n : Nat) (p : Mat) (k : Nat) : (nl n p k).length = k := by simp [nl]
theorem MatAt.flat {w : World} {g n : Nat} {r : Mat} (h : MatAt w g n r) {k : Nat} (hk : k < (n + 1) * (n + 1)) : w.cell? ⟨g, k, none⟩ = some (.int .i64 (flat n r k)) := by
  have a := h.cell (k / (n + 1)) (k % (n + 1)) (by have := Nat.div_lt_of_lt_mul hk; omega) (by have := Nat.mod_lt k (show 0 < n + 1 by omega); omega)
  rw [show k / (n + 1) * (n + 1) + k % (n + 1) = k by rw [Nat.mul_comm]; exact Nat.div_add_mod k (n + 1)] at a
  exact a
theorem MatAt.later {w w' : World} {g n : Nat} {r : Mat} (h : MatAt w g n r) {B : Nat} (hb : Below B w w') (hB : g < B) : MatAt w' g n r :=
  ⟨fun i j hi hj => (hb.cell (p := ⟨g, i * (n + 1) + j, none⟩) hB).trans (h.cell i j hi hj), fun i j hi hj => (hb.frozen (p := ⟨g, i * (n + 1) + j, none⟩) hB).trans (h.free i j hi hj)⟩
theorem MatAt.lt {w : World} {g n : Nat} {r : Mat} (h : MatAt w g n r) : g < w.heap.size := World.block_lt_of_cell? _ _ (h.cell 0 0 (by omega) (by omega))
/-- What is told of wide cells. -/
def RZoneOut (w' : World) (B n : Nat) (e : Ending) : Option (List Int) → Prop
  | none => e = .returned (.tuple #[.pointer none, .int .i64 10])
  | some l => ∃ b, e = .returned (.tuple #[.pointer (some ⟨b, 0, none⟩), .int .i64 0]) ∧ RZone w' B b n l
def madeR (n m : Nat) (r : Mat) : Option (List Int) :=
  match rcl n (n + 1) (clipAll (n + 1) r) with
  | none => some (List.replicate m 0)
  | some p => if narAll n p m then some (nl n p m) else none
theorem own_form {w : World} {base K : Nat} {E : TypeId} {v : Value} {xs : List Value} (h : w.ownsRow base E 1 v (K + 1) xs) : ∃ g cap, v = .slice (some ⟨g, 0, none⟩) (K + 1) cap := by
  rcases h.2 with ⟨_, h0⟩ | ⟨g, cap, cur, hv, _⟩
  · omega
  · exact ⟨g, cap, hv⟩
theorem own_slice {w : World} {base K : Nat} {E : TypeId} {v : Value} {xs : List Value} (h : w.ownsRow base E 1 v K xs) : ∃ ao cap, v = .slice ao K cap := by
  rcases h.2 with ⟨hv, h0⟩ | ⟨g, cap, cur, hv, _⟩
  · subst h0; exact ⟨none, 0, hv⟩
  · exact ⟨_, cap, hv⟩
theorem after_app {W w1 w : World} {bz g n K : Nat} {p : Mat} {v v' : Value} {o : Obj} {E : TypeId} {xs ys : List Value} (hgz : g < bz) (c0 : W.cell? ⟨bz, 0, none⟩ = some (.int .i64 n)) (c1 : W.cell? ⟨bz, 1, none⟩ = some v) (c2 : W.frozen? ⟨bz, 1, none⟩ = false) (c3 : bz + 1 ≤ W.heap.size)
    (hown : W.ownsRow (bz + 1) E 1 v K xs) (hM : MatAt W g n p) (hB : Below g w W) (hgrow : (W.alloc o).grownBy w1 v.ownBlock) (hown' : w1.ownsRow (bz + 1) E 1 v' (K + 1) ys) :
    w1.cell? ⟨bz, 1, none⟩ = some v ∧ w1.frozen? ⟨bz, 1, none⟩ = false ∧ (w1.setCell ⟨bz, 1, none⟩ v').cell? ⟨bz, 0, none⟩ = some (.int .i64 n) ∧ (w1.setCell ⟨bz, 1, none⟩ v').cell? ⟨bz, 1, none⟩ = some v' ∧ (w1.setCell ⟨bz, 1, none⟩ v').frozen? ⟨bz, 1, none⟩ = false ∧ bz + 1 ≤ (w1.setCell ⟨bz, 1, none⟩ v').heap.size ∧
    (w1.setCell ⟨bz, 1, none⟩ v').ownsRow (bz + 1) E 1 v' (K + 1) ys ∧ MatAt (w1.setCell ⟨bz, 1, none⟩ v') g n p ∧ Below g w (w1.setCell ⟨bz, 1, none⟩ v') := by
  have hb : Below (bz + 1) W w1 := ((Below.refl (bz + 1) W).alloc c3 o).grown hgrow (by simp; omega) (by intro q hq; exact (hown.lt q hq).1)
  have d0 : w1.cell? ⟨bz, 0, none⟩ = some (.int .i64 n) := (hb.cell (p := ⟨bz, 0, none⟩) (Nat.lt_succ_self _)).trans c0
  have d1 : w1.cell? ⟨bz, 1, none⟩ = some v := (hb.cell (p := ⟨bz, 1, none⟩) (Nat.lt_succ_self _)).trans c1
  have d2 : w1.frozen? ⟨bz, 1, none⟩ = false := (hb.frozen (p := ⟨bz, 1, none⟩) (Nat.lt_succ_self _)).trans c2
  have hb2 : Below bz W (w1.setCell ⟨bz, 1, none⟩ v') := (hb.mono (Nat.le_succ _)).setCell (Nat.le_refl _) _
  refine ⟨d1, d2, ?_, World.cell?_setCell_same _ _ _ d1, by rw [World.frozen?_setCell]; exact d2, ?_, ownsRow_setCell_below hown' (Nat.lt_succ_self _) _, hM.later hb2 hgz, hB.trans (hb2.mono (Nat.le_of_lt hgz))⟩
  · rw [World.cell?_setCell_other _ _ _ _ (by intro e; injection e; omega)]
    exact d0
  · have := hb2.size
    omega
theorem after_app2 {W w1 w : World} {bz g n K : Nat} {p : Mat} {v v' : Value} {o : Obj} {E : TypeId} {xs ys : List Value} (hgz : g < bz) (c0 : W.cell? ⟨bz, 0, none⟩ = some (.int .i64 n)) (c1 : W.cell? ⟨bz, 1, none⟩ = some v) (c2 : W.frozen? ⟨bz, 1, none⟩ = false) (c3 : bz + 1 ≤ W.heap.size)
    (hown : W.ownsRow (bz + 1) E 1 v K xs) (hM : MatAt W g n p) (hB : Below g w W) (hgrow : (W.alloc o).drew.grownBy w1 v.ownBlock) (hown' : w1.ownsRow (bz + 1) E 1 v' (K + 1) ys) :
    w1.cell? ⟨bz, 1, none⟩ = some v ∧ w1.frozen? ⟨bz, 1, none⟩ = false ∧ (w1.setCell ⟨bz, 1, none⟩ v').cell? ⟨bz, 0, none⟩ = some (.int .i64 n) ∧ (w1.setCell ⟨bz, 1, none⟩ v').cell? ⟨bz, 1, none⟩ = some v' ∧ (w1.setCell ⟨bz, 1, none⟩ v').frozen? ⟨bz, 1, none⟩ = false ∧ bz + 1 ≤ (w1.setCell ⟨bz, 1, none⟩ v').heap.size ∧
    (w1.setCell ⟨bz, 1, none⟩ v').ownsRow (bz + 1) E 1 v' (K + 1) ys ∧ MatAt (w1.setCell ⟨bz, 1, none⟩ v') g n p ∧ Below g w (w1.setCell ⟨bz, 1, none⟩ v') := by
  have hb : Below (bz + 1) W w1 := (((Below.refl (bz + 1) W).alloc c3 o).drew).grown hgrow (by simp; omega) (by intro q hq; exact (hown.lt q hq).1)
  have d0 : w1.cell? ⟨bz, 0, none⟩ = some (.int .i64 n) := (hb.cell (p := ⟨bz, 0, none⟩) (Nat.lt_succ_self _)).trans c0
  have d1 : w1.cell? ⟨bz, 1, none⟩ = some v := (hb.cell (p := ⟨bz, 1, none⟩) (Nat.lt_succ_self _)).trans c1
  have d2 : w1.frozen? ⟨bz, 1, none⟩ = false := (hb.frozen (p := ⟨bz, 1, none⟩) (Nat.lt_succ_self _)).trans c2
  have hb2 : Below bz W (w1.setCell ⟨bz, 1, none⟩ v') := (hb.mono (Nat.le_succ _)).setCell (Nat.le_refl _) _
  refine ⟨d1, d2, ?_, World.cell?_setCell_same _ _ _ d1, by rw [World.frozen?_setCell]; exact d2, ?_, ownsRow_setCell_below hown' (Nat.lt_succ_self _) _, hM.later hb2 hgz, hB.trans (hb2.mono (Nat.le_of_lt hgz))⟩
  · rw [World.cell?_setCell_other _ _ _ _ (by intro e; injection e; omega)]
    exact d0
  · have := hb2.size
    omega
end Go.Proofs.Ytohkbjkfpnhggaa

/-
  The document's answer for layer 3: Of, Cells; and that it is the program's.
-/
namespace Go.Proofs.Ytohkbjkfpnhggaa
open Go.RowKit
set_option linter.unusedVariables false
set_option maxRecDepth 100000
/-- The matrix of a row of wide cells. -/
def rowMat (n : Nat) (l : List Int) : Mat := fun i j => if i ≤ n ∧ j ≤ n then wideV (l.getD (i * (n + 1) + j) 0) else 0
theorem matAt_own {w : World} {base g n cap : Nat} {l : List Int} (hl : l.length = (n + 1) * (n + 1)) (h : w.ownsRow base 2 1 (.slice (some ⟨g, 0, none⟩) l.length cap) l.length ((wideL l l.length).map (Value.int .i64))) : MatAt w g n (rowMat n l) := by
  refine ⟨fun i j hi hj => ?_, fun i j hi hj => h.frozenAt _⟩
  have lt : i * (n + 1) + j < l.length := by rw [hl]; exact pos_lt hi hj
  rw [h.cellAt _ (by omega)]
  simp [wideL, rowMat, List.getD, lt, hi, hj]
/-- What Of tells by the document. -/
def refOf (n : Nat) (l : List Int) : Option (List Int) := madeR n l.length (rowMat n l)
end Go.Proofs.Ytohkbjkfpnhggaa

/-
  The program's zone of a row of bounds, and the document's, are one.
-/
namespace Go.Proofs.Ytohkbjkfpnhggaa
open Go.RowKit
set_option linter.unusedVariables false
def tgV (a x : Int) : Int := if x = 2147483647 then a else min a x
theorem tgAll_at (n : Nat) (l : List Int) (r : Mat) (k : Nat) (hk : k ≤ (n + 1) * (n + 1)) (i j : Nat) :
    tgAll n l k r i j = if i ≤ n ∧ j ≤ n ∧ i * (n + 1) + j < k then tgV (r i j) (l.getD (i * (n + 1) + j) 0) else r i j := by
  induction k with
  | zero => simp [tgAll]
  | succ k ih =>
    have ih := ih (by omega)
    have d1 : k / (n + 1) ≤ n := by have := Nat.div_lt_of_lt_mul (show k < (n + 1) * (n + 1) by omega); omega
    have d2 : k % (n + 1) ≤ n := by have := Nat.mod_lt k (show 0 < n + 1 by omega); omega
    have d3 : k / (n + 1) * (n + 1) + k % (n + 1) = k := by rw [Nat.mul_comm]; exact Nat.div_add_mod k (n + 1)
    by_cases e : i = k / (n + 1) ∧ j = k % (n + 1)
    · obtain ⟨rfl, rfl⟩ := e
      rw [if_neg (by rw [d3]; omega)] at ih
      rw [if_pos ⟨d1, d2, by rw [d3]; omega⟩, d3]
      simp only [tgAll, tg, tgV]
      split
      · exact ih
      · simp [upd, ih]
    · have e2 : tgAll n l (k + 1) r i j = tgAll n l k r i j := by
        simp only [tgAll, tg]
        split
        · rfl
        · simp [upd, e]
      rw [e2, ih]
      congr 1
      apply propext
      constructor
      · rintro ⟨a, b, c⟩
        exact ⟨a, b, by omega⟩
      · rintro ⟨a, b, c⟩
        refine ⟨a, b, ?_⟩
        apply Classical.byContradiction
        intro q
        have : i * (n + 1) + j = k / (n + 1) * (n + 1) + k % (n + 1) := by omega
        exact e (pos_inj b d2 this)
theorem clipAll_at (r : Mat) (c i j : Nat) : clipAll c r i j = if (i = j ∧ i < c) ∨ (i = 0 ∧ j < c) then min 1 (r i j) else r i j := by
  induction c with
  | zero => simp [clipAll]
  | succ c ih =>
    have s : ∀ (q : Mat) (a : Nat), clipD a q i j = if i = a ∧ j = a then min 1 (q i j) else q i j := by
      intro q a
      unfold clipD
      by_cases e : i = a ∧ j = a
      · obtain ⟨rfl, rfl⟩ := e
        by_cases c1 : 1 < q j j
        · rw [if_pos c1, if_pos ⟨rfl, rfl⟩]
          simp [upd]
          omega
        · rw [if_neg c1, if_pos ⟨rfl, rfl⟩]
          omega
      · rw [if_neg e]
        split
        · simp [upd, e]
        · rfl
    have s0 : ∀ (q : Mat) (a : Nat), clip0 a q i j = if i = 0 ∧ j = a then min 1 (q i j) else q i j := by
      intro q a
      unfold clip0
      by_cases e : i = 0 ∧ j = a
      · obtain ⟨rfl, rfl⟩ := e
        by_cases c1 : 1 < q 0 j
        · rw [if_pos c1, if_pos ⟨rfl, rfl⟩]
          simp [upd]
          omega
        · rw [if_neg c1, if_pos ⟨rfl, rfl⟩]
          omega
      · rw [if_neg e]
        split
        · simp [upd, e]
        · rfl
    simp only [clipAll]
    rw [s0, s, ih]
    repeat' split
    all_goals omega
/-- Both begin with one matrix. -/
theorem start_both (n : Nat) (l : List Int) (hi : ∀ j, j < (n + 1) * (n + 1) → l.getD j 0 ≤ 2147483647) : clipAll (n + 1) (rowMat n l) = tgAll n l ((n + 1) * (n + 1)) (startR n (n + 1) 0) := by
  funext i j
  rw [clipAll_at, tgAll_at n l _ _ (Nat.le_refl _)]
  by_cases b : i ≤ n ∧ j ≤ n
  · have lt := pos_lt b.1 b.2
    rw [if_pos (show i ≤ n ∧ j ≤ n ∧ i * (n + 1) + j < (n + 1) * (n + 1) from ⟨b.1, b.2, lt⟩)]
    have x1 := hi _ lt
    have e1 : rowMat n l i j = wideV (l.getD (i * (n + 1) + j) 0) := by simp only [rowMat, if_pos b]
    have e2 : startR n (n + 1) 0 i j = startV i j := by simp only [startR]; rw [if_pos (.inl ⟨by omega, b.2⟩)]
    rw [e1, e2]
    generalize l.getD (i * (n + 1) + j) 0 = x at *
    unfold wideV tgV startV
    repeat' split
    all_goals omega
  · have e1 : rowMat n l i j = 0 := by simp only [rowMat, if_neg b]
    have e2 : startR n (n + 1) 0 i j = 0 := by simp only [startR]; rw [if_neg (by omega)]
    rw [e1, e2, if_neg (by omega), if_neg (by omega)]
theorem listOf_zero (m : Nat) : listOf (fun _ => 0) m = List.replicate m 0 := by
  induction m with
  | zero => rfl
  | succ m ih => simp [listOf, List.range_succ, List.replicate_succ'] at *; exact ih
theorem listOf_cells (n : Nat) (p : Mat) (m : Nat) : listOf (cellsUpto n p m) m = nl n p m := by
  unfold listOf nl
  apply List.map_congr_left
  intro a ha
  have : a < m := by simpa using ha
  simp [cellsUpto, this]
/-- One answer. -/
theorem of_same (n : Nat) (l : List Int) (hl : l.length = (n + 1) * (n + 1)) (hi : ∀ j, j < (n + 1) * (n + 1) → l.getD j 0 ≤ 2147483647) :
    refOf n l = (zoneR n (tgAll n l l.length (startR n (n + 1) 0))).map (fun c => listOf c ((n + 1) * (n + 1))) := by
  have s := start_both n l hi
  have d : ∀ i, i ≤ n → tgAll n l ((n + 1) * (n + 1)) (startR n (n + 1) 0) i i ≤ 1 := by
    intro i h
    rw [← s, clipAll_at, if_pos (.inl ⟨rfl, by omega⟩)]
    omega
  unfold refOf madeR zoneR
  rw [hl, s, ← close_both d]
  cases closeR n (tgAll n l ((n + 1) * (n + 1)) (startR n (n + 1) 0)) with
  | none => simp [listOf_zero]
  | some p =>
    simp only
    split
    · simp [listOf_cells]
    · rfl
end Go.Proofs.Ytohkbjkfpnhggaa
