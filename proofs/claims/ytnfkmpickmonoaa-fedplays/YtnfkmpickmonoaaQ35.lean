/-
  fed: unions by the document; Dim, Zones, Empty.
-/
import Derived.Test.YtnfkmpickmonoaaQ34
import Derived.Test.YtnfkmpickmonoaaQ19
namespace Go.Proofs.Ytnfkmpickmonoaa
open Go.RowKit Go.Shelf
set_option linter.unusedVariables false
set_option maxRecDepth 100000
attribute [local go_sem] Oper.semAt_some
/-- A zone of the document's: where it lies, and its cells. -/
abbrev RZR := Nat × List Int
def pvR7 (e : RZR) : Value := .pointer (some ⟨e.1, 0, none⟩)
/-- A union of the document's in memory. -/
structure RFedAt (w : World) (fb n m : Nat) (zs : List RZR) : Prop where
  c0 : w.cell? ⟨fb, 0, none⟩ = some (.int .i64 n)
  c1 : ∃ v, w.cell? ⟨fb, 1, none⟩ = some v ∧ w.ownsRow 0 34 1 v zs.length (zs.map pvR7)
  zones : ∀ e ∈ zs, RZone w 0 e.1 n e.2 ∧ e.2.length = m ∧ e.2.getD 0 0 = 1
  len : zs.length ≤ 4096
theorem own_slR {w : World} {base n : Nat} {v : Value} {xs : List Value} (h : w.ownsRow base 34 1 v n xs) : ∃ ad cap, v = .slice ad n cap := by
  rcases h.2 with ⟨rfl, rfl⟩ | ⟨g, cap, cur, rfl, -⟩
  · exact ⟨_, _, rfl⟩
  · exact ⟨_, _, rfl⟩
theorem rfdim_any (fb n : Nat) (w : World) (c0 : w.cell? ⟨fb, 0, none⟩ = some (.int .i64 (n : Int))) : Calls Try.prog 48 #[.pointer (some ⟨fb, 0, none⟩)] w fun e w' => e = .returned (.int .i64 (n : Int)) ∧ w' = w := by
  go_enter Try.func48, Try.ntmps48
  go_wp2_with fail
  go_ret
  exact ⟨rfl, rfl⟩
theorem rfdim_nil (w : World) : Calls Try.prog 48 #[.pointer none] w fun e w' => e = .returned (.int .i64 0) ∧ w' = w := by
  go_enter Try.func48, Try.ntmps48
  go_wp2_with fail
  go_ret
  exact ⟨rfl, rfl⟩
theorem rfzones_any (fb : Nat) (v : Value) (w : World) (c1 : w.cell? ⟨fb, 1, none⟩ = some v) : Calls Try.prog 47 #[.pointer (some ⟨fb, 0, none⟩)] w fun e w' => e = .returned v ∧ w' = w := by
  go_enter Try.func47, Try.ntmps47
  go_wp2_with fail
  go_ret
  exact ⟨rfl, rfl⟩
theorem rfzones_nil (w : World) : Calls Try.prog 47 #[.pointer none] w fun e w' => e = .returned (.slice none 0 0) ∧ w' = w := by
  go_enter Try.func47, Try.ntmps47
  go_wp2_with fail
  go_ret
  exact ⟨rfl, rfl⟩
theorem rfempty_any (fb n m : Nat) (zs : List RZR) (w : World) (hf : RFedAt w fb n m zs) : Calls Try.prog 49 #[.pointer (some ⟨fb, 0, none⟩)] w fun e w' => e = .returned (.bool (decide (zs.length = 0))) ∧ w' = w := by
  obtain ⟨v, c1, hown⟩ := hf.c1
  obtain ⟨q, hq⟩ : ∃ q, zs.length = q := ⟨_, rfl⟩
  obtain ⟨ad, cap, rfl⟩ := own_slR hown
  rw [hq] at c1 ⊢
  obtain ⟨t, ht⟩ : ∃ t, ((q : Int) == 0) = t := ⟨_, rfl⟩
  have HT : Hid (decide (q = 0) = t) := by
    show _ = _
    rw [← ht]
    by_cases c : q = 0
    · subst c; rfl
    · have c' : ¬ (q : Int) = 0 := by omega
      simp [c]
  clear hf hown hq
  cases t with
  | true =>
    go_enter Try.func49, Try.ntmps49
    go_wp2_with fail
    go_ret
    exact ⟨by rw [HT.out]; rfl, rfl⟩
  | false =>
    go_enter Try.func49, Try.ntmps49
    go_wp2_with fail
    go_ret
    exact ⟨by rw [HT.out]; rfl, rfl⟩
theorem rfempty_nil (w : World) : Calls Try.prog 49 #[.pointer none] w fun e w' => e = .returned (.bool false) ∧ w' = w := by
  go_enter Try.func49, Try.ntmps49
  go_wp2_with fail
  go_ret
  exact ⟨rfl, rfl⟩
end Go.Proofs.Ytnfkmpickmonoaa

/-
  fed: New by the document: its errors.
-/
namespace Go.Proofs.Ytnfkmpickmonoaa
open Go.RowKit Go.Shelf
set_option linter.unusedVariables false
set_option maxRecDepth 100000
attribute [local go_sem] Oper.semAt_some
abbrev RPZ7 := Option RZR
abbrev rptr7 (z : RPZ7) : Value := .pointer (z.map fun z => ⟨z.1, 0, none⟩)
/-- A row of the document's zones in memory. -/
structure RPRow (w : World) (ad : Option Addr) (n m : Nat) (ps : List RPZ7) : Prop where
  cell : ∀ k (hk : k < ps.length), ∃ g, ad = some ⟨g, 0, none⟩ ∧ w.cell? ⟨g, k, none⟩ = some (rptr7 ps[k])
  zones : ∀ z, some z ∈ ps → RZone w 0 z.1 n z.2 ∧ z.2.length = m
theorem RPRow.past {A B : World} (hb : Below A.heap.size A B) {ad : Option Addr} {n m : Nat} {ps : List RPZ7} (h : RPRow A ad n m ps) : RPRow B ad n m ps :=
  ⟨fun k hk => by
    obtain ⟨g, h1, h2⟩ := h.cell k hk
    exact ⟨g, h1, kc _ _ hb h2⟩, fun z hz => ⟨(h.zones z hz).1.past hb, (h.zones z hz).2⟩⟩
theorem rnew_clock (x : Int) (l : Value) (w : World) (hx : x < 0 ∨ 8 < x) : Calls Try.prog 10 #[.int .i64 x, l] w fun e w' => e = .returned (.tuple #[.pointer none, .int .i64 12]) ∧ w' = w := by
  by_cases c : x < 0
  · clear hx
    go_enter Try.func10, Try.ntmps10
    go_wp2_with fail
    refine bodyPost_ret (v := .tuple #[.pointer none, .int .i64 12]) (by simp [results, Try.results10, go_sem]) rfl ?_
    exact ⟨rfl, rfl⟩
  · have c8 : 8 < x := by omega
    clear hx
    go_enter Try.func10, Try.ntmps10
    go_wp2_with fail
    refine bodyPost_ret (v := .tuple #[.pointer none, .int .i64 12]) (by simp [results, Try.results10, go_sem]) rfl ?_
    exact ⟨rfl, rfl⟩
def rhasNil (ps : List RPZ7) : Bool := ps.any (·.isNone)
theorem rhasNil_out {ps : List RPZ7} (h : rhasNil ps = false) : ∀ p ∈ ps, p ≠ none := fun p hp e => by
  subst e
  have : rhasNil ps = true := List.any_eq_true.2 ⟨none, hp, rfl⟩
  rw [this] at h
  cases h
theorem rnew_nil (ad : Option Addr) (cap q n m : Nat) (ps : List RPZ7) (w : World) (hn : n ≤ 8) (hq : ps.length = q) (q1 : q ≤ 1000000000) (hV : RPRow w ad n m ps) (hN : rhasNil ps = true) :
    Calls Try.prog 10 #[.int .i64 (n : Int), .slice ad q cap] w fun e w' => e = .returned (.tuple #[.pointer none, .int .i64 1]) ∧ Below w.heap.size w w' := by
  have B1 := hideD (below_one w (.cells #[.int .i64 (n : Int), .slice none 0 0] 83))
  have HV := hideD (hV.past B1.out)
  have HQ := hideD hq
  have HN := hideD hN
  have n8 : (n : Int) ≤ 8 := by omega
  have n0 : ¬ (n : Int) < 0 := by omega
  have n9 : ¬ (8 : Int) < (n : Int) := by omega
  clear hV hq hN hn
  go_enter Try.func10, Try.ntmps10
  go_wp2_with fail
  go_loopw [7] (fun i wr => ∃ (K : Nat), K ≤ q ∧ i = .int .i64 (K : Int) ∧ Hid (∀ j (hj : j < ps.length), j < K → ps[j] ≠ none) ∧ Hid (wr = w.alloc (.cells #[.int .i64 (n : Int), .slice none 0 0] 83))) (fun i _ => q - (intOf i).toNat)
  case atStart => exact ⟨0, Nat.zero_le _, rfl, fun j _ h => by omega, rfl⟩
  case round =>
    obtain ⟨K, hK, rfl, O, B⟩ := hrel
    have eB := B.out
    subst eB
    by_cases ck : K < q
    · have hl : K < ps.length := by rw [HQ.out]; exact ck
      obtain ⟨b, rfl, c0⟩ := HV.out.cell K hl
      have k0 : (K : Int) < (q : Int) := by omega
      obtain ⟨z, hz⟩ : ∃ z, ps[K] = z := ⟨_, rfl⟩
      rw [hz] at c0
      cases z with
      | none =>
        simp only [rptr7, Option.map_none] at c0
        clear hz O B HV
        go_wp2_with fail
        refine bodyPost_ret (v := .tuple #[.pointer none, .int .i64 1]) (by simp [results, Try.results10, go_sem]) rfl ?_
        exact ⟨rfl, B1.out⟩
      | some z =>
        have O1 : Hid (∀ j (hj : j < ps.length), j < K + 1 → ps[j] ≠ none) := fun j hj h => by
          by_cases e : j = K
          · subst e
            rw [hz]
            simp
          · exact O.out j hj (by omega)
        simp only [rptr7, Option.map_some] at c0
        clear hz O B
        go_wp2_with fail
        go_roundw
        case rel => exact ⟨K + 1, by omega, by go_num, O1, by first | exact rfl | trivial⟩
        case measure => simp [intOf]; omega
    · exfalso
      have h := HN.out
      unfold rhasNil at h
      obtain ⟨p, hp, hp2⟩ := List.any_eq_true.1 h
      obtain ⟨j, hj, e⟩ := List.mem_iff_getElem.1 hp
      have h1 := O.out j hj (by have := HQ.out; omega)
      rw [e] at h1
      cases p with
      | none => exact h1 rfl
      | some z => cases hp2
end Go.Proofs.Ytnfkmpickmonoaa
