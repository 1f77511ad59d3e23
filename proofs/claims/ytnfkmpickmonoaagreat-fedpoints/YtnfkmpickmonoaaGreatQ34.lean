/-
  fed: both News over both rows; what stays when a row of pointers is cleared.
-/
import Derived.Test.YtnfkmpickmonoaaGreatQ32
import Derived.Test.YtnfkmpickmonoaaGreatQ26
namespace Go.Proofs.YtnfkmpickmonoaaGreat
open Go.RowKit Go.Shelf
set_option linter.unusedVariables false
set_option maxRecDepth 100000
attribute [local go_sem] Oper.semAt_some
theorem prow_both {H : Nat} {N : Nat} {W : World} {es : List E3} {va vb : Value} (h : Both7 H (N : Int) W es va vb) : (∃ ad cap, va = .slice ad es.length cap ∧ PRow W ad N ((N + 1) * (N + 1)) (es.map eP)) ∧ ((es = [] ∧ vb = .slice none 0 0) ∨ ∃ g cap, vb = .slice (some ⟨g, 0, none⟩) es.length cap ∧ RPRow W (some ⟨g, 0, none⟩) N ((N + 1) * (N + 1)) (es.map (eR ((N + 1) * (N + 1))))) := by
  have zP : ∀ z, some z ∈ es.map eP → ZoneAt W z.1 N z.2 ∧ ZC N ((N + 1) * (N + 1)) z.2 := fun z hz => by
    obtain ⟨e, he, h1⟩ := List.mem_map.1 hz
    cases e with
    | none => cases h1
    | some x =>
      obtain ⟨b, r, c⟩ := x
      injection h1 with h1
      subst h1
      obtain ⟨M, h2, -, h3, -, h5⟩ := h.zones b r c he
      obtain rfl : N = M := by omega
      exact ⟨h3, h5⟩
  have zR : ∀ z, some z ∈ es.map (eR ((N + 1) * (N + 1))) → RZone W 0 z.1 N z.2 ∧ z.2.length = (N + 1) * (N + 1) := fun z hz => by
    obtain ⟨e, he, h1⟩ := List.mem_map.1 hz
    cases e with
    | none => cases h1
    | some x =>
      obtain ⟨b, r, c⟩ := x
      injection h1 with h1
      subst h1
      obtain ⟨M, h2, -, -, h4, -⟩ := h.zones b r c he
      obtain rfl : N = M := by omega
      exact ⟨h4, listOf_len _ _⟩
  constructor
  · rcases own_at h.a with ⟨h1, h2⟩ | ⟨g, cap, h1, -, -, h3⟩
    · refine ⟨none, 0, by rw [h2]; exact h1, fun k hk => by simp at hk; omega, zP⟩
    · refine ⟨_, cap, h1, fun k hk => ⟨g, rfl, ?_⟩, zP⟩
      have hk' : k < es.length := by simpa using hk
      refine h3 k _ hk' ?_
      rw [List.getElem?_map, List.getElem?_eq_getElem hk', List.getElem_map]
      rfl
  · rcases own_at h.b with ⟨h1, h2⟩ | ⟨g, cap, h1, -, -, h3⟩
    · exact .inl ⟨List.length_eq_zero_iff.1 h2, h1⟩
    · refine .inr ⟨g, cap, h1, fun k hk => ⟨g, rfl, ?_⟩, zR⟩
      have hk' : k < es.length := by simpa using hk
      refine h3 k _ hk' ?_
      rw [List.getElem?_map, List.getElem?_eq_getElem hk', List.getElem_map]
      cases es[k] <;> rfl
theorem rnew_empty (n m : Nat) (w : World) (hn : n ≤ 8) : Calls Tryz.prog 8 #[.int .i64 (n : Int), .slice none 0 0] w fun e w' => RNewOut n m [] e w' ∧ Below w.heap.size w w' := by
  have n8 : (n : Int) ≤ 8 := by omega
  have n0 : ¬ (n : Int) < 0 := by omega
  have n9 : ¬ (8 : Int) < (n : Int) := by omega
  have B1 := hideD (below_one w (.cells #[.int .i64 (n : Int), .slice none 0 0] 69))
  have F : Hid (RFedAt (w.alloc (.cells #[.int .i64 (n : Int), .slice none 0 0] 69)) w.heap.size n m []) :=
    ⟨by simp [go_sem], ⟨.slice none 0 0, by simp [go_sem], World.ownsRow_nil _ _ _ _⟩, fun e he => by (cases he), by simp⟩
  go_enter Tryz.func8, Tryz.ntmps8
  go_wp2_with fail
  go_loopw [7] (fun i wr => i = .int .i64 0 ∧ Hid (wr = w.alloc (.cells #[.int .i64 (n : Int), .slice none 0 0] 69))) (fun _ _ => 0)
  case atStart => exact ⟨rfl, rfl⟩
  case round =>
    obtain ⟨rfl, B⟩ := hrel
    have eB := B.out
    subst eB
    clear B
    go_wp2_with fail
    go_loopw [8] (fun i wr => i = .int .i64 0 ∧ Hid (wr = w.alloc (.cells #[.int .i64 (n : Int), .slice none 0 0] 69))) (fun _ _ => 0)
    case atStart => exact ⟨rfl, rfl⟩
    case round =>
      obtain ⟨rfl, B⟩ := hrel
      have eB := B.out
      subst eB
      clear B
      go_wp2_with fail
      go_loopw [9] (fun i wr => i = .int .i64 0 ∧ Hid (wr = w.alloc (.cells #[.int .i64 (n : Int), .slice none 0 0] 69))) (fun _ _ => 0)
      case atStart => exact ⟨rfl, rfl⟩
      case round =>
        obtain ⟨rfl, B⟩ := hrel
        have eB := B.out
        subst eB
        clear B
        go_wp2_with fail
        refine bodyPost_ret (v := .tuple #[.pointer (some ⟨w.heap.size, 0, none⟩), .int .i64 0]) (by simp [results, Tryz.results8, go_sem]) rfl ?_
        exact ⟨⟨_, [], rfl, F.out, rfl⟩, B1.out⟩
end Go.Proofs.YtnfkmpickmonoaaGreat
