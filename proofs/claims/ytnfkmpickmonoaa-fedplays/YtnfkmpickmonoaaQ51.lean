/-
  fed: nil unions, nil zones.
-/
import Derived.Test.YtnfkmpickmonoaaQ34
import Derived.Test.YtnfkmpickmonoaaQ50
import Derived.Test.YtnfkmpickmonoaaQ48
import Derived.Test.YtnfkmpickmonoaaQ49
namespace Go.Proofs.Ytnfkmpickmonoaa
open Go.RowKit Go.Shelf
set_option linter.unusedVariables false
set_option maxRecDepth 100000
attribute [local go_sem] Oper.semAt_some
theorem fminus_no (f z : Value) (x : Int) (w : World) (hx : x ≠ 0) (H : ∀ W, Calls Try.prog 53 #[f, z] W fun e w' => e = .returned (.int .i64 x) ∧ w' = W) :
    Calls Try.prog 15 #[f, z] w fun e w' => e = .returned (.tuple #[.pointer none, .int .i64 x]) ∧ Below w.heap.size w w' := by
  have HH := hideD H
  have hx' : (x == 0) = false := by simpa using hx
  have B0 := hideD (below_one w (.cells #[.pointer none] 37))
  have B1 : Hid (Below w.heap.size w ((w.alloc (.cells #[.pointer none] 37)).alloc (.cells #[.int .i64 x] 31))) := Below.alloc B0.out (by simp) _
  clear H hx
  go_enter Try.func15, Try.ntmps15
  go_wp2_with fail
  refine (HH.out _).mono ?_
  rintro e w1 ⟨rfl, e1⟩
  obtain rfl := e1.symm
  clear e1 HH
  go_wp2_with fail
  refine bodyPost_ret (v := .tuple #[.pointer none, .int .i64 x]) (by simp [results, Try.results15, go_sem]) rfl ?_
  exact ⟨rfl, B1.out⟩
end Go.Proofs.Ytnfkmpickmonoaa

/-
  fed: unions by both, nil or not; what both say of Minus, Meet, Plus, Fewer.
-/
namespace Go.Proofs.Ytnfkmpickmonoaa
open Go.RowKit Go.Shelf
set_option linter.unusedVariables false
set_option maxRecDepth 100000
attribute [local go_sem] Oper.semAt_some
/-- The zones of a union, or nil. -/
abbrev U7 := Option (List Row)
def PF7 (N m : Nat) (W : World) (p : Option Addr) : U7 → Prop
  | none => p = none
  | some cs => ∃ fb zs, p = some ⟨fb, 0, none⟩ ∧ FedAt W fb N m zs ∧ zs.map (·.2) = cs
def RF7 (N m : Nat) (W : World) (p : Option Addr) : U7 → Prop
  | none => p = none
  | some cs => ∃ fb rs, p = some ⟨fb, 0, none⟩ ∧ RFedAt W fb N m rs ∧ rs.map (·.2) = cs.map (fun c => listOf c m)
theorem PF7.past {N m : Nat} {A B : World} {p : Option Addr} {u : U7} (h : PF7 N m A p u) (hb : Below A.heap.size A B) : PF7 N m B p u := by
  cases u with
  | none => exact h
  | some cs =>
    obtain ⟨fb, zs, h1, h2, h3⟩ := h
    exact ⟨fb, zs, h1, h2.past hb, h3⟩
theorem RF7.past {N m : Nat} {A B : World} {p : Option Addr} {u : U7} (h : RF7 N m A p u) (hb : Below A.heap.size A B) : RF7 N m B p u := by
  cases u with
  | none => exact h
  | some cs =>
    obtain ⟨fb, zs, h1, h2, h3⟩ := h
    exact ⟨fb, zs, h1, h2.past hb, h3⟩
def SayF (N m : Nat) (w : World) (f : Nat) (args : Array Value) (k : Int) (u : U7) : Prop := ∀ w', Below w.heap.size w w' → Calls Try.prog f args w' fun e w'' => (∃ p, e = .returned (.tuple #[.pointer p, .int .i64 k]) ∧ Hid (PF7 N m w'' p u)) ∧ Hid (Below w'.heap.size w' w'')
def SayG (N m : Nat) (w : World) (f : Nat) (args : Array Value) (k : Int) (u : U7) : Prop := ∀ w', Below w.heap.size w w' → Calls Try.prog f args w' fun e w'' => (∃ p, e = .returned (.tuple #[.pointer p, .int .i64 k]) ∧ Hid (RF7 N m w'' p u)) ∧ Hid (Below w'.heap.size w' w'')
/-- Both say the same. -/
def Two7 (N m : Nat) (w : World) (f : Nat) (a : Array Value) (g : Nat) (b : Array Value) : Prop := ∃ k u, SayF N m w f a k u ∧ SayG N m w g b k u
def uOf (s : List Row × Int) : U7 := if s.2 = 0 then some s.1 else none
theorem minus_says {H N m : Nat} {s : List Row × Int} {e : Ending} {W : World} (h : MinusOut H N m s e W) : ∃ p, e = .returned (.tuple #[.pointer p, .int .i64 s.2]) ∧ Hid (PF7 N m W p (uOf s)) := by
  rcases h with ⟨h1, h2⟩ | ⟨h1, fb, zs, -, h2, h3, h4⟩
  · exact ⟨none, h2, by show PF7 N m W none (uOf s); unfold uOf; rw [if_neg h1]; rfl⟩
  · exact ⟨_, by rw [h1]; exact h2, by show PF7 N m W _ (uOf s); unfold uOf; rw [if_pos h1]; exact ⟨fb, zs, rfl, h3, h4⟩⟩
theorem rminus_says {N m : Nat} {s : List Row × Int} {e : Ending} {W : World} (h : RMOut N m s e W) : ∃ p, e = .returned (.tuple #[.pointer p, .int .i64 s.2]) ∧ Hid (RF7 N m W p (uOf s)) := by
  rcases h with ⟨h1, h2⟩ | ⟨h1, fb, zs, h2, h3, h4⟩
  · exact ⟨none, h2, by show RF7 N m W none (uOf s); unfold uOf; rw [if_neg h1]; rfl⟩
  · exact ⟨_, by rw [h1]; exact h2, by show RF7 N m W _ (uOf s); unfold uOf; rw [if_pos h1]; exact ⟨fb, zs, rfl, h3, h4⟩⟩
theorem fed_zcs {W : World} {fb N m : Nat} {zs : List ZR} (h : FedAt W fb N m zs) : ZCs N m (zs.map (·.2)) := fun c hc => by
  obtain ⟨e, he, rfl⟩ := List.mem_map.1 hc
  exact (h.zones e he).2
/-- Both fail. -/
theorem two_fail {N m : Nat} {w : World} {f g : Nat} {a b : Array Value} (k : Int) (h1 : ∀ w', Below w.heap.size w w' → Calls Try.prog f a w' fun e w'' => e = .returned (.tuple #[.pointer none, .int .i64 k]) ∧ Below w'.heap.size w' w'') (h2 : ∀ w', Below w.heap.size w w' → Calls Try.prog g b w' fun e w'' => e = .returned (.tuple #[.pointer none, .int .i64 k]) ∧ Below w'.heap.size w' w'') : Two7 N m w f a g b :=
  ⟨k, none, fun w' hb => (h1 w' hb).mono fun e w'' ⟨h, hb⟩ => ⟨⟨none, h, rfl⟩, hb⟩, fun w' hb => (h2 w' hb).mono fun e w'' ⟨h, hb⟩ => ⟨⟨none, h, rfl⟩, hb⟩⟩
theorem same_bel7 {A : World} {f : Nat} {args : Array Value} {v : Value} (h : Calls Try.prog f args A fun e w' => e = .returned v ∧ w' = A) : Calls Try.prog f args A fun e w' => e = .returned v ∧ Below A.heap.size A w' :=
  h.mono fun e w' ⟨h1, h2⟩ => ⟨h1, by rw [h2]; exact Below.refl _ _⟩
/-- What is known of the numbers, where there is a union. -/
def Fits7 (N m : Nat) (u : U7) (o : OZ7) : Prop := N ≤ 8 ∧ m = (N + 1) * (N + 1) ∧ (u ≠ none → ∀ M c, o = some (M, c) → M = N)
theorem two_minus {N m : Nat} {W : World} {p r zp zr : Option Addr} {u : U7} {o : OZ7} (hF : Fits7 N m u o) (hp : PF7 N m W p u) (hr : RF7 N m W r u) (hz : PZo W zp o) (hy : RZo W zr o) (zc : ZCo7 o) :
    Two7 N m W 15 #[.pointer p, .pointer zp] 16 #[.pointer r, .pointer zr] := by
  cases u with
  | none =>
    obtain rfl := hp
    obtain rfl := hr
    exact two_fail 1 (fun w' _ => fminus_no _ _ 1 w' (by decide) (fun W => fits_nilF _ W)) (fun w' _ => rminus_nilF _ w')
  | some cs =>
    obtain ⟨N8, hm, hM⟩ := hF
    have hM := hM (by simp)
    obtain ⟨fb, zs, rfl, h2, h3⟩ := hp
    obtain ⟨gb, rs, rfl, g2, g3⟩ := hr
    cases o with
    | none =>
      obtain rfl := hz
      obtain rfl := hy
      exact two_fail 1 (fun w' _ => fminus_no _ _ 1 w' (by decide) (fun W => fits_nilZ _ W)) (fun w' _ => rminus_nilZ _ w')
    | some x =>
      obtain ⟨M, d⟩ := x
      obtain rfl := hM M d rfl
      obtain ⟨-, -, zb, rfl, hz⟩ := hz
      obtain ⟨-, rb, B, rfl, hy⟩ := hy
      have zd := zc M d rfl
      rw [← hm] at zd hy
      refine ⟨(minusL M m cs d).2, uOf (minusL M m cs d), fun w' hb => ?_, fun w' hb => ?_⟩
      · refine (callsIn_wide.1 (fminus_any fb zb M m zs d w' N8 hm (h2.past hb) (hz.past hb) zd)).mono ?_
        rintro e w'' ⟨h, hb'⟩
        rw [h3] at h
        exact ⟨minus_says h, hb'⟩
      · refine (rminus_any gb rb M m rs cs d w' N8 hm (g2.past hb) g3 (by rw [← h3]; exact fed_zcs h2) (hy.weak7.past hb) zd).mono ?_
        rintro e w'' ⟨h, hb'⟩
        exact ⟨rminus_says h, hb'⟩
theorem two_meet {N m : Nat} {W : World} {p r zp zr : Option Addr} {u : U7} {o : OZ7} (hF : Fits7 N m u o) (hp : PF7 N m W p u) (hr : RF7 N m W r u) (hz : PZo W zp o) (hy : RZo W zr o) (zc : ZCo7 o) :
    Two7 N m W 17 #[.pointer p, .pointer zp] 18 #[.pointer r, .pointer zr] := by
  cases u with
  | none =>
    obtain rfl := hp
    obtain rfl := hr
    exact two_fail 1 (fun w' _ => fmeet_no _ _ 1 w' (by decide) (same_bel7 (fits_nilF _ _))) (fun w' _ => rmeet_nilF _ w')
  | some cs =>
    obtain ⟨N8, hm, hM⟩ := hF
    have hM := hM (by simp)
    obtain ⟨fb, zs, rfl, h2, h3⟩ := hp
    obtain ⟨gb, rs, rfl, g2, g3⟩ := hr
    cases o with
    | none =>
      obtain rfl := hz
      obtain rfl := hy
      exact two_fail 1 (fun w' _ => fmeet_no _ _ 1 w' (by decide) (same_bel7 (fits_nilZ _ _))) (fun w' _ => rmeet_nilZ _ w')
    | some x =>
      obtain ⟨M, d⟩ := x
      obtain rfl := hM M d rfl
      obtain ⟨-, -, zb, rfl, hz⟩ := hz
      obtain ⟨-, rb, B, rfl, hy⟩ := hy
      have zd := zc M d rfl
      rw [← hm] at zd hy
      refine ⟨(meetL M m cs d).2, uOf (meetL M m cs d), fun w' hb => ?_, fun w' hb => ?_⟩
      · refine (fmeet_any fb zb M m zs d w' N8 hm (h2.past hb) (hz.past hb) zd).mono ?_
        rintro e w'' ⟨h, hb'⟩
        rw [h3] at h
        exact ⟨minus_says h, hb'⟩
      · refine (rmeet_any gb rb M m rs cs d w' N8 hm (g2.past hb) g3 (by rw [← h3]; exact fed_zcs h2) (hy.weak7.past hb) zd).mono ?_
        rintro e w'' ⟨h, hb'⟩
        exact ⟨rminus_says h, hb'⟩
/-- Both zones beside each other. -/
theorem zip_rows {m : Nat} : ∀ (zs : List ZR) (rs : List RZR), rs.map (·.2) = (zs.map (·.2)).map (fun c => listOf c m) → ∃ es : List E3, es.map eP = zs.map some ∧ es.map (eR m) = rs.map some ∧ hasN es = false ∧ cellsE es = zs.map (·.2) ∧ ∀ b r c, some (b, r, c) ∈ es → (b, c) ∈ zs
  | [], [], _ => ⟨[], rfl, rfl, rfl, rfl, fun b r c h => by cases h⟩
  | z :: zs, r :: rs, h => by
    simp only [List.map_cons, List.cons.injEq] at h
    obtain ⟨es, h1, h2, h3, h4, h5⟩ := zip_rows zs rs h.2
    refine ⟨some (z.1, r.1, z.2) :: es, ?_, ?_, ?_, ?_, fun b r' c hm => ?_⟩
    · rw [List.map_cons, h1]; rfl
    · rw [List.map_cons, h2, List.map_cons]
      have : eR m (some (z.1, r.1, z.2)) = some r := by
        show some (r.1, listOf z.2 m) = some r
        rw [← h.1]
      rw [this]
    · unfold hasN at h3 ⊢
      rw [List.any_cons, h3]
      rfl
    · unfold cellsE at h4 ⊢
      rw [List.filterMap_cons]
      simp only [Option.map_some, List.map_cons]
      rw [h4]
    · rcases List.mem_cons.1 hm with q | q
      · injection q with q
        injection q with q1 q2
        injection q2 with q2 q3
        subst q1 q3
        exact List.mem_cons_self
      · exact List.mem_cons_of_mem _ (h5 b r' c q)
  | [], r :: rs, h => by simp at h
  | z :: zs, [], h => by simp at h
end Go.Proofs.Ytnfkmpickmonoaa
