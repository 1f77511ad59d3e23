/-
  fed: New by the document: its errors.
-/
import Derived.Test.YtnfkmpickmonoaaQ43
namespace Go.Proofs.Ytnfkmpickmonoaa
open Go.RowKit Go.Shelf
set_option linter.unusedVariables false
set_option maxRecDepth 100000
attribute [local go_sem] Oper.semAt_some
abbrev RPZ7 := Option RZR
abbrev rptr7 (z : RPZ7) : Value := .pointer (z.map fun z => ⟨z.1, 0, none⟩)
/-- A row of the document's zones in memory. -/
structure RPRow (w : World) (ad : Option Addr) (n m : Nat) (ps : List RPZ7) : Prop where
  cell : ∀ k (hk : k < ps.length), ∃ g, ad = some ⟨g, 0, none⟩ ∧ w.cell? ⟨g, k, none⟩ = some (rptr7 ps[k])
  zones : ∀ z, some z ∈ ps → RZone w 0 z.1 n z.2 ∧ z.2.length = m
theorem RPRow.past {A B : World} (hb : Below A.heap.size A B) {ad : Option Addr} {n m : Nat} {ps : List RPZ7} (h : RPRow A ad n m ps) : RPRow B ad n m ps :=
  ⟨fun k hk => by
    obtain ⟨g, h1, h2⟩ := h.cell k hk
    exact ⟨g, h1, kc _ _ hb h2⟩, fun z hz => ⟨(h.zones z hz).1.past hb, (h.zones z hz).2⟩⟩
theorem rnew_clock (x : Int) (l : Value) (w : World) (hx : x < 0 ∨ 8 < x) : Calls Try.prog 10 #[.int .i64 x, l] w fun e w' => e = .returned (.tuple #[.pointer none, .int .i64 12]) ∧ w' = w := by
  by_cases c : x < 0
  · clear hx
    go_enter Try.func10, Try.ntmps10
    go_wp2_with fail
    refine bodyPost_ret (v := .tuple #[.pointer none, .int .i64 12]) (by simp [results, Try.results10, go_sem]) rfl ?_
    exact ⟨rfl, rfl⟩
  · have c8 : 8 < x := by omega
    clear hx
    go_enter Try.func10, Try.ntmps10
    go_wp2_with fail
    refine bodyPost_ret (v := .tuple #[.pointer none, .int .i64 12]) (by simp [results, Try.results10, go_sem]) rfl ?_
    exact ⟨rfl, rfl⟩
def rhasNil (ps : List RPZ7) : Bool := ps.any (·.isNone)
theorem rhasNil_out {ps : List RPZ7} (h : rhasNil ps = false) : ∀ p ∈ ps, p ≠ none := fun p hp e => by
  subst e
  have : rhasNil ps = true := List.any_eq_true.2 ⟨none, hp, rfl⟩
  rw [this] at h
  cases h
theorem rnew_nil (ad : Option Addr) (cap q n m : Nat) (ps : List RPZ7) (w : World) (hn : n ≤ 8) (hq : ps.length = q) (q1 : q ≤ 1000000000) (hV : RPRow w ad n m ps) (hN : rhasNil ps = true) :
    Calls Try.prog 10 #[.int .i64 (n : Int), .slice ad q cap] w fun e w' => e = .returned (.tuple #[.pointer none, .int .i64 1]) ∧ Below w.heap.size w w' := by
  have B1 := hideD (below_one w (.cells #[.int .i64 (n : Int), .slice none 0 0] 83))
  have HV := hideD (hV.past B1.out)
  have HQ := hideD hq
  have HN := hideD hN
  have n8 : (n : Int) ≤ 8 := by omega
  have n0 : ¬ (n : Int) < 0 := by omega
  have n9 : ¬ (8 : Int) < (n : Int) := by omega
  clear hV hq hN hn
  go_enter Try.func10, Try.ntmps10
  go_wp2_with fail
  go_loopw [7] (fun i wr => ∃ (K : Nat), K ≤ q ∧ i = .int .i64 (K : Int) ∧ Hid (∀ j (hj : j < ps.length), j < K → ps[j] ≠ none) ∧ Hid (wr = w.alloc (.cells #[.int .i64 (n : Int), .slice none 0 0] 83))) (fun i _ => q - (intOf i).toNat)
  case atStart => exact ⟨0, Nat.zero_le _, rfl, fun j _ h => by omega, rfl⟩
  case round =>
    obtain ⟨K, hK, rfl, O, B⟩ := hrel
    have eB := B.out
    subst eB
    by_cases ck : K < q
    · have hl : K < ps.length := by rw [HQ.out]; exact ck
      obtain ⟨b, rfl, c0⟩ := HV.out.cell K hl
      have k0 : (K : Int) < (q : Int) := by omega
      obtain ⟨z, hz⟩ : ∃ z, ps[K] = z := ⟨_, rfl⟩
      rw [hz] at c0
      cases z with
      | none =>
        simp only [rptr7, Option.map_none] at c0
        clear hz O B HV
        go_wp2_with fail
        refine bodyPost_ret (v := .tuple #[.pointer none, .int .i64 1]) (by simp [results, Try.results10, go_sem]) rfl ?_
        exact ⟨rfl, B1.out⟩
      | some z =>
        have O1 : Hid (∀ j (hj : j < ps.length), j < K + 1 → ps[j] ≠ none) := fun j hj h => by
          by_cases e : j = K
          · subst e
            rw [hz]
            simp
          · exact O.out j hj (by omega)
        simp only [rptr7, Option.map_some] at c0
        clear hz O B
        go_wp2_with fail
        go_roundw
        case rel => exact ⟨K + 1, by omega, by go_num, O1, by first | exact rfl | trivial⟩
        case measure => simp [intOf]; omega
    · exfalso
      have h := HN.out
      unfold rhasNil at h
      obtain ⟨p, hp, hp2⟩ := List.any_eq_true.1 h
      obtain ⟨j, hj, e⟩ := List.mem_iff_getElem.1 hp
      have h1 := O.out j hj (by have := HQ.out; omega)
      rw [e] at h1
      cases p with
      | none => exact h1 rfl
      | some z => cases hp2
end Go.Proofs.Ytnfkmpickmonoaa
