/-
  fed: the law's zones by both ways; slices of slices of bounds opened.
-/
import Derived.Test.YtnfkmpickmonoaaQ37
import Derived.Test.YtnfkmpickmonoaaQ21
import Derived.Test.YtnfkmpickmonoaaQ19
import Derived.Deep.Slices
import Derived.ProofKit
import Derived.OpenShut
namespace Go.Proofs.Ytnfkmpickmonoaa
open Go.ChangeShapes Go.WideShapes Go.ChangeAt Go.RowKit Go.Deep Go.Shelf
set_option linter.unusedVariables false
set_option maxRecDepth 100000
/-- A zone that is there, or none: its clocks and cells. -/
abbrev OZ7 := Option (Nat × Row)
def PZo (w : World) (p : Option Addr) : OZ7 → Prop
  | none => p = none
  | some (n, c) => n ≤ 8 ∧ C32 c ∧ ∃ b, p = some ⟨b, 0, none⟩ ∧ ZoneAt w b n c
def RZo (w : World) (p : Option Addr) : OZ7 → Prop
  | none => p = none
  | some (n, c) => n ≤ 8 ∧ ∃ r B, p = some ⟨r, 0, none⟩ ∧ RZone w B r n (listOf c ((n + 1) * (n + 1)))
def ZCo7 (o : OZ7) : Prop := ∀ n c, o = some (n, c) → ZC n ((n + 1) * (n + 1)) c
theorem PZo.past {w w' : World} {p : Option Addr} {o : OZ7} (h : PZo w p o) (hb : Below w.heap.size w w') : PZo w' p o := by
  cases o with
  | none => exact h
  | some x =>
    obtain ⟨h1, h2, b, h3, h4⟩ := h
    exact ⟨h1, h2, b, h3, h4.past hb⟩
def SayP7 (w : World) (f : Nat) (args : Array Value) (k : Int) (o : OZ7) : Prop := ∀ w', Below w.heap.size w w' → Calls Try.prog f args w' fun e w'' => (∃ p, e = .returned (.tuple #[.pointer p, .int .i64 k]) ∧ Hid (PZo w'' p o)) ∧ Hid (Below w'.heap.size w' w'')
def SayR7 (w : World) (f : Nat) (args : Array Value) (k : Int) (o : OZ7) : Prop := ∀ w', Below w.heap.size w w' → Calls Try.prog f args w' fun e w'' => (∃ p, e = .returned (.tuple #[.pointer p, .int .i64 k]) ∧ Hid (RZo w'' p o)) ∧ Hid (Below w'.heap.size w' w'')
theorem zco_none7 : ZCo7 none := fun n c h => by cases h
theorem same_w7 {f : Nat} {args : Array Value} {k : Int} {w : World} (h : Calls Try.prog f args w fun e w' => e = errOf k ∧ w' = w) : Calls Try.prog f args w fun e w' => e = errOf k ∧ Below w.heap.size w w' := h.mono fun e w' ⟨h1, h2⟩ => ⟨h1, by rw [h2]; exact Below.refl _ _⟩
theorem right_of_all7 {l : List Int} {m : Nat} (h : allRight l m = true) : RightL m l := fun k hk => by
  have : ∀ m, allRight l m = true → ∀ k, k < m → rightB (l.getD k 0) = true := by
    intro m
    induction m with
    | zero => intro _ k hk; omega
    | succ m ih =>
      intro h k hk
      simp only [allRight, Bool.and_eq_true] at h
      by_cases q : k = m
      · subst q; exact h.2
      · exact ih h.1 k (by omega)
  exact of_decide_eq_true (this m h k hk)
/-! ### Slices of slices of bounds -/
theorem wf_cells7 {l : List Int} (wf : ∀ z ∈ l, (Lit.int .i32 z).wf = true) : ∀ j, j < l.length → -2147483648 ≤ l.getD j 0 ∧ l.getD j 0 ≤ 2147483647 := fun j hj => by
  have e : l.getD j 0 = l[j] := by simp [List.getD, hj]
  have := bounds_i32 (wf _ (List.getElem_mem hj))
  rw [e]
  exact this
end Go.Proofs.Ytnfkmpickmonoaa

/-
  fed: both News tell the same zones.
-/
namespace Go.Proofs.Ytnfkmpickmonoaa
open Go.RowKit Go.Shelf
set_option linter.unusedVariables false
set_option maxRecDepth 100000
/-- A zone by both, or none: the program's block, the document's, the cells. -/
abbrev E3 := Option (Nat × Nat × Row)
def eP (e : E3) : PZ7 := e.map fun z => (z.1, z.2.2)
def eR (m : Nat) (e : E3) : RPZ7 := e.map fun z => (z.2.1, listOf z.2.2 m)
def hasN (es : List E3) : Bool := es.any (·.isNone)
theorem hasN_R (m : Nat) (es : List E3) : rhasNil (es.map (eR m)) = hasN es := by
  unfold rhasNil hasN
  rw [List.any_map]
  congr 1
  funext e
  cases e <;> rfl
theorem zc01' {n m : Nat} {c : Row} (hm : m = (n + 1) * (n + 1)) (h : ZC n m c) : c 0 = 0 ∨ c 0 = 1 := by
  rcases h with rfl | ⟨p, hp⟩
  · exact .inl rfl
  · exact .inr (hp.zero hm)
theorem layL_cells : ∀ (cs : List Row) (s : List Row), s.length + cs.length ≤ 4096 → layL (s, 0) (cs.map fun c => ((some c, 0) : YS)) = (s ++ cs.filter (fun c => decide (¬ c 0 < 1)), 0)
  | [], s, _ => by simp [layL]
  | c :: cs, s, h => by
    have e : layL (s, 0) ((c :: cs).map fun c => ((some c, 0) : YS)) = layL (layS (s, 0) (some c, 0)) (cs.map fun c => ((some c, 0) : YS)) := rfl
    rw [e]
    simp only [List.length_cons] at h
    by_cases h1 : c 0 < 1
    · have : layS (s, 0) (some c, 0) = (s, 0) := by simp [layS, h1]
      rw [this, layL_cells cs s (by omega), List.filter_cons]
      simp [h1]
    · have : layS (s, 0) (some c, 0) = (s ++ [c], 0) := by
        have hl : s.length ≠ 4096 := by omega
        simp [layS, h1, hl]
      rw [this, layL_cells cs (s ++ [c]) (by rw [List.length_append, List.length_singleton]; omega), List.filter_cons]
      simp [h1]
/-- The cells of the zones that are there. -/
def cellsE (es : List E3) : List Row := es.filterMap fun e => e.map fun z => z.2.2
theorem ysP_cells {es : List E3} (h : hasN es = false) : (es.map eP).map ysP = (cellsE es).map fun c => ((some c, 0) : YS) := by
  induction es with
  | nil => rfl
  | cons e es ih =>
    have h2 : hasN es = false := by
      unfold hasN at h ⊢
      rw [List.any_cons, Bool.or_eq_false_iff] at h
      exact h.2
    cases e with
    | none => cases h
    | some z =>
      have := ih h2
      simp only [List.map_cons, this, cellsE, List.filterMap_cons, Option.map_some]
      rfl
theorem cellsE_len (es : List E3) : (cellsE es).length ≤ es.length := List.length_filterMap_le _ _
/-- What fed.New makes of them. -/
theorem newL_cells {es : List E3} (h : hasN es = false) (hl : es.length ≤ 4096) : newL (es.map eP) = ((cellsE es).filter (fun c => decide (¬ c 0 < 1)), 0) := by
  unfold newL
  rw [ysP_cells h, layL_cells _ _ (by have := cellsE_len es; simp; omega)]
  rfl
/-- What the document's New makes of them. -/
theorem rnew_cells {n m : Nat} {es : List E3} {rs : List RZR} (hm : m = (n + 1) * (n + 1)) (h : hasN es = false) (hz : ∀ b r c, some (b, r, c) ∈ es → ZC n m c)
    (hr : rs.map some = (es.map (eR m)).filter (fun p => (p.map fun z => z.2.getD 0 0 != 1) == some false)) : rs.map (·.2) = ((cellsE es).filter (fun c => decide (¬ c 0 < 1))).map fun c => listOf c m := by
  have mp : 0 < m := by rw [hm]; exact Nat.mul_pos (by omega) (by omega)
  have key : ∀ es : List E3, hasN es = false → (∀ b r c, some (b, r, c) ∈ es → ZC n m c) → ((es.map (eR m)).filter (fun p => (p.map fun z => z.2.getD 0 0 != 1) == some false)).map (fun p => p.map (·.2)) = (((cellsE es).filter (fun c => decide (¬ c 0 < 1))).map fun c => listOf c m).map some := by
    intro es
    induction es with
    | nil => intro _ _; rfl
    | cons e es ih =>
      intro h hz
      have h2 : hasN es = false := by
        unfold hasN at h ⊢
        rw [List.any_cons, Bool.or_eq_false_iff] at h
        exact h.2
      cases e with
      | none => cases h
      | some z =>
        obtain ⟨b, r, c⟩ := z
        have I := ih h2 (fun b r c hm => hz b r c (List.mem_cons_of_mem _ hm))
        have z01 := zc01' hm (hz b r c List.mem_cons_self)
        have e1 : (listOf c m).getD 0 0 = c 0 := listOf_get c m 0 mp
        simp only [cellsE, List.filterMap_cons, Option.map_some, List.map_cons, eR, List.filter_cons, e1]
        simp only [cellsE] at I
        rcases z01 with q | q
        · simp only [q]
          simpa using I
        · simp only [q]
          simpa using I
  have k := key es h hz
  rw [← hr, List.map_map] at k
  have e2 : (rs.map ((fun p : RPZ7 => p.map (·.2)) ∘ some)) = (rs.map (·.2)).map some := by
    rw [List.map_map]
    rfl
  rw [e2] at k
  have inj : ∀ (a b : List (List Int)), a.map some = b.map some → a = b := by
    intro a
    induction a with
    | nil => intro b h; cases b with | nil => rfl | cons => simp at h
    | cons x a ih =>
      intro b h
      cases b with
      | nil => simp at h
      | cons y b =>
        simp only [List.map_cons, List.cons.injEq, Option.some.injEq] at h
        rw [h.1, ih b h.2]
  exact inj _ _ k
end Go.Proofs.Ytnfkmpickmonoaa
