/-
  fed.New: rows of zones, some of them nil.
-/
import Derived.Test.YtnfkmpickmonoaaQ31
namespace Go.Proofs.Ytnfkmpickmonoaa
open Go.RowKit Go.Shelf
set_option linter.unusedVariables false
set_option maxRecDepth 100000
attribute [local go_sem] Oper.semAt_some
theorem run_equalIn_nil_ptr7 {P : Program} (w : World) (d : Nat) (t : TypeId) (a : Addr) (h : P.underlying t = some (.pointer (P.pointee t))) :
    (Op.equalIn (d + 1) t (.pointer none) (.pointer (some a))).run P w = .ok false w := by
  simp [Op.equalIn, run_underlying h]
theorem run_equal_nil_ptr7 {P : Program} (w : World) (t : TypeId) (a : Addr) (h : P.underlying t = some (.pointer (P.pointee t))) : (Op.equal t (.pointer none) (.pointer (some a))).run P w = .ok false w := run_equalIn_nil_ptr7 w 9999 t a h
theorem run_eql_nil_ptr7 {P : Program} (w : World) (t : TypeId) (a : Addr) (h : P.underlying t = some (.pointer (P.pointee t))) : (binOp .eql t (.pointer none) (.pointer (some a))).run P w = .ok (.bool false) w := by
  simp only [binOp]
  simp [run_equal_nil_ptr7 w t a h]
attribute [local go_sem] run_eql_nil_ptr7
/-- Where a zone lies, or nil. -/
abbrev PZ7 := Option ZR
abbrev ptr7 (z : PZ7) : Value := .pointer (z.map fun z => ⟨z.1, 0, none⟩)
/-- A row of zones in memory. -/
structure PRow (w : World) (ad : Option Addr) (n m : Nat) (ps : List PZ7) : Prop where
  cell : ∀ k (hk : k < ps.length), ∃ g, ad = some ⟨g, 0, none⟩ ∧ w.cell? ⟨g, k, none⟩ = some (ptr7 ps[k])
  zones : ∀ z, some z ∈ ps → ZoneAt w z.1 n z.2 ∧ ZC n m z.2
theorem PRow.same {A B : World} (hs : SameC none A B) {ad : Option Addr} {n m : Nat} {ps : List PZ7} (h : PRow A ad n m ps) : PRow B ad n m ps :=
  ⟨fun k hk => by
    obtain ⟨g, h1, h2⟩ := h.cell k hk
    exact ⟨g, h1, hs.cell h2 (by simp)⟩, fun z hz => ⟨hs.zone (h.zones z hz).1 (by simp), (h.zones z hz).2⟩⟩
theorem PRow.past {A B : World} (hb : Below A.heap.size A B) {ad : Option Addr} {n m : Nat} {ps : List PZ7} (h : PRow A ad n m ps) : PRow B ad n m ps := h.same (SameC.below hb)
theorem indexNil_any (ad : Option Addr) (cap q n m : Nat) (ps : List PZ7) (w : World) (hq : ps.length = q) (q1 : q ≤ 9223372036854775807) (hV : PRow w ad n m ps) :
    Calls Try.prog 74 #[.slice ad q cap, .pointer none] w fun e w' => (∃ z : Int, e = .returned (.int .i64 z) ∧ (((∀ p ∈ ps, p ≠ none) ∧ z = -1) ∨ (none ∈ ps ∧ 0 ≤ z))) ∧ w' = w := by
  have HV := hideD hV
  have HQ := hideD hq
  clear hV hq
  go_enter Try.func74, Try.ntmps74
  go_wp2_with fail
  go_loopw [8] (fun s wr => ∃ (K : Nat), K ≤ q ∧ s = .int .i64 (K : Int) ∧ Hid (∀ j (hj : j < ps.length), j < K → ps[j] ≠ none) ∧ Hid (wr = w)) (fun s _ => q - (intOf s).toNat)
  case atStart => exact ⟨0, by omega, rfl, fun j _ h => by omega, rfl⟩
  case round =>
    obtain ⟨K, hK, rfl, O, B⟩ := hrel
    obtain rfl := B.out
    by_cases ck : K < q
    · have hl : K < ps.length := by rw [HQ.out]; exact ck
      obtain ⟨b, rfl, c0⟩ := HV.out.cell K hl
      have k0 : (K : Int) < (q : Int) := by omega
      obtain ⟨z, hz⟩ : ∃ z, ps[K] = z := ⟨_, rfl⟩
      rw [hz] at c0
      cases z with
      | none =>
        have F : Hid (none ∈ ps) := by
          show none ∈ ps
          rw [← hz]
          exact List.getElem_mem hl
        simp only [ptr7, Option.map_none] at c0
        clear hz O B
        go_wp2_with fail
        go_ret
        exact ⟨⟨_, rfl, .inr ⟨F.out, by omega⟩⟩, rfl⟩
      | some z =>
        have O1 : Hid (∀ j (hj : j < ps.length), j < K + 1 → ps[j] ≠ none) := fun j hj h => by
          by_cases e : j = K
          · subst e
            rw [hz]
            simp
          · exact O.out j hj (by omega)
        simp only [ptr7, Option.map_some] at c0
        clear hz O B
        go_wp2_with fail
        go_roundw
        case rel => exact ⟨K + 1, by omega, by go_num, O1, by first | exact rfl | trivial⟩
        case measure => simp [intOf]; omega
    · have k0 : ¬ (K : Int) < (q : Int) := by omega
      have F : Hid (∀ p ∈ ps, p ≠ none) := fun p hp => by
        obtain ⟨j, hj, rfl⟩ := List.mem_iff_getElem.1 hp
        exact O.out j hj (by have := HQ.out; omega)
      clear O B
      go_wp2_with fail
      go_ret
      exact ⟨⟨_, rfl, .inl ⟨F.out, rfl⟩⟩, rfl⟩
def hasNil (ps : List PZ7) : Bool := ps.any (·.isNone)
theorem hasNil_yes {ps : List PZ7} (h : none ∈ ps) : hasNil ps = true := List.any_eq_true.2 ⟨none, h, rfl⟩
theorem hasNil_no {ps : List PZ7} (h : ∀ p ∈ ps, p ≠ none) : hasNil ps = false := by
  rw [hasNil, List.any_eq_false]
  intro p hp
  have := h p hp
  cases p <;> simp_all
theorem hasNil_out {ps : List PZ7} (h : hasNil ps = false) : ∀ p ∈ ps, p ≠ none := fun p hp e => by
  subst e
  rw [hasNil_yes hp] at h
  cases h
theorem containsNil_any (ad : Option Addr) (cap q n m : Nat) (ps : List PZ7) (w : World) (hq : ps.length = q) (q1 : q ≤ 9223372036854775807) (hV : PRow w ad n m ps) :
    Calls Try.prog 38 #[.slice ad q cap, .pointer none] w fun e w' => e = .returned (.bool (hasNil ps)) ∧ w' = w := by
  have H := hideD (indexNil_any ad cap q n m ps w hq q1 hV)
  clear hV hq
  go_enter Try.func38, Try.ntmps38
  go_wp2_with fail
  refine H.out.mono ?_
  rintro e w1 ⟨⟨z, rfl, h⟩, e1⟩
  obtain rfl := e1.symm
  have HZ : Hid (decide (0 ≤ z) = hasNil ps) := by
    show _ = _
    rcases h with ⟨h1, rfl⟩ | ⟨h1, h2⟩
    · rw [hasNil_no h1]; rfl
    · rw [hasNil_yes h1]; simpa using h2
  clear h H e1
  go_wp2_with fail
  go_ret
  exact ⟨by rw [← HZ.out]; rfl, rfl⟩
theorem dimNe_any (bx b n : Nat) (c : Row) (w : World) (hz : ZoneAt w b n c) (hb : w.cell? ⟨bx, 0, none⟩ = some (.int .i64 (n : Int))) :
    Calls Try.prog 40 #[.pointer (some ⟨b, 0, none⟩), .pointer (some ⟨bx, 0, none⟩)] w fun e w' => e = .returned (.bool false) ∧ Below w.heap.size w w' := by
  have HD := hideD (fun w' (h : Below w.heap.size w w') => zdim_any b n c w' (hz.past h))
  clear hz
  go_enter Try.func40, Try.ntmps40
  go_wp2_with fail
  go_region_held3 (fun w' => Below w.heap.size w w' ∧ w'.cell? ⟨bx, 0, none⟩ = some (.int .i64 n))
    (first | exact ⟨by first | assumption | exact Below.refl _ _ | exact Below.drew (Below.refl _ _) | exact Below.drew (by assumption), by first | assumption | simp [go_sem, *]⟩ | go_keep)
    (first | (go_at_call 41; refine (HD.out _ (by first | assumption | exact Below.refl _ _ | exact Below.drew (Below.refl _ _) | exact Below.drew (by assumption))).mono ?_; rintro e' w' ⟨rfl, rfl⟩))
  all_goals
    go_wp2_with fail
    go_ret
    exact ⟨by first | rfl | simp, by first | assumption | exact Below.drew (Below.refl _ _)⟩
theorem indexDim_any (ad : Option Addr) (cap q n m bx : Nat) (ps : List PZ7) (w : World) (hq : ps.length = q) (q1 : q ≤ 9223372036854775807) (hV : PRow w ad n m ps) (hn : ∀ p ∈ ps, p ≠ none) (hb : w.cell? ⟨bx, 0, none⟩ = some (.int .i64 (n : Int))) :
    Calls Try.prog 75 #[.slice ad q cap, .func (.func 40) #[] #[.pointer (some ⟨bx, 0, none⟩)]] w fun e w' => e = .returned (.int .i64 (-1)) ∧ Below w.heap.size w w' := by
  have HV := hideD hV
  have HQ := hideD hq
  have HN := hideD hn
  have HB := hideD hb
  clear hV hq hn hb
  go_enter Try.func75, Try.ntmps75
  go_wp2_with fail
  go_loopw [8] (fun s wr => ∃ (K : Nat), K ≤ q ∧ s = .int .i64 (K : Int) ∧ Hid (Below w.heap.size w wr)) (fun s _ => q - (intOf s).toNat)
  case atStart => exact ⟨0, by omega, rfl, Below.refl _ _⟩
  case round =>
    obtain ⟨K, hK, rfl, B⟩ := hrel
    by_cases ck : K < q
    · have hl : K < ps.length := by rw [HQ.out]; exact ck
      obtain ⟨b, rfl, c0⟩ := (HV.out.past B.out).cell K hl
      have k0 : (K : Int) < (q : Int) := by omega
      obtain ⟨z, hz⟩ : ∃ z, ps[K] = some z := by
        have := HN.out _ (List.getElem_mem hl)
        cases e : ps[K] with
        | none => exact absurd e this
        | some z => exact ⟨z, rfl⟩
      have hzz := HV.out.zones z (by rw [← hz]; exact List.getElem_mem hl)
      rw [hz] at c0
      simp only [ptr7, Option.map_some] at c0
      have HR := hideD (dimNe_any bx z.1 n z.2 wr (hzz.1.past B.out) (kc _ _ B.out HB.out))
      clear hz hzz
      go_wp2_with fail
      refine HR.out.mono ?_
      rintro e w1 ⟨rfl, hb⟩
      have B1 := hideD (beyondD B.out hb)
      clear hb B HR c0
      go_wp2_with fail
      go_roundw
      case rel => exact ⟨K + 1, by omega, by go_num, B1⟩
      case measure => simp [intOf]; omega
    · have k0 : ¬ (K : Int) < (q : Int) := by omega
      go_wp2_with fail
      go_ret
      exact ⟨rfl, B.out⟩
theorem containsDim_any (ad : Option Addr) (cap q n m bx : Nat) (ps : List PZ7) (w : World) (hq : ps.length = q) (q1 : q ≤ 9223372036854775807) (hV : PRow w ad n m ps) (hn : ∀ p ∈ ps, p ≠ none) (hb : w.cell? ⟨bx, 0, none⟩ = some (.int .i64 (n : Int))) :
    Calls Try.prog 39 #[.slice ad q cap, .func (.func 40) #[] #[.pointer (some ⟨bx, 0, none⟩)]] w fun e w' => e = .returned (.bool false) ∧ Below w.heap.size w w' := by
  have H := hideD (indexDim_any ad cap q n m bx ps w hq q1 hV hn hb)
  clear hV hq hn hb
  go_enter Try.func39, Try.ntmps39
  go_wp2_with fail
  refine H.out.mono ?_
  rintro e w1 ⟨rfl, hb⟩
  have HB := hideD hb
  clear hb H
  go_wp2_with fail
  go_ret
  exact ⟨rfl, HB.out⟩
end Go.Proofs.Ytnfkmpickmonoaa
