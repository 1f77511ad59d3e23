/-
  fed: unions in memory; fits.
-/
import Derived.Test.YtnfkmpickmonoaaQ29
namespace Go.Proofs.Ytnfkmpickmonoaa
open Go.RowKit Go.Shelf
set_option linter.unusedVariables false
set_option maxRecDepth 100000
attribute [local go_sem] Oper.semAt_some
/-- A union in memory. -/
structure FedAt (w : World) (fb n m : Nat) (zs : List ZR) : Prop where
  c0 : w.cell? ⟨fb, 0, none⟩ = some (.int .i64 n)
  c1 : ∃ v, w.cell? ⟨fb, 1, none⟩ = some v ∧ w.ownsRow 0 30 1 v zs.length (zs.map pvF)
  zones : ∀ e ∈ zs, ZoneAt w e.1 n e.2 ∧ ZC n m e.2 ∧ ¬ e.2 0 < 1
  len : zs.length ≤ 4096
theorem SameC.owns {X : Option Nat} {A B : World} (h : SameC X A B) {base k : Nat} {v : Value} {xs : List Value} (hR : A.ownsRow base 30 1 v k xs) (hv : ∀ x, X = some x → v.ownBlock ≠ some x) : B.ownsRow base 30 1 v k xs := by
  refine ⟨hR.1, ?_⟩
  rcases hR.2 with q | ⟨g, cap, cur, h1, h2, h3, h4⟩
  · exact .inl q
  · refine .inr ⟨g, cap, cur, h1, h2, h.block g _ h3 rfl (fun e => ?_), h4⟩
    exact hv g e.symm (by rw [h1]; rfl)
theorem FedAt.same {A B : World} (hs : SameC none A B) {fb n m : Nat} {zs : List ZR} (h : FedAt A fb n m zs) : FedAt B fb n m zs := by
  obtain ⟨h0, ⟨v, h1, h2⟩, h3, h4⟩ := h
  exact ⟨hs.cell h0 (by simp), ⟨v, hs.cell h1 (by simp), hs.owns h2 (fun x e => by cases e)⟩, fun e he => ⟨hs.zone (h3 e he).1 (by simp), (h3 e he).2⟩, h4⟩
theorem FedAt.past {A B : World} (hb : Below A.heap.size A B) {fb n m : Nat} {zs : List ZR} (h : FedAt A fb n m zs) : FedAt B fb n m zs := h.same (SameC.below hb)
/-- The slice's elements. -/
theorem owns_elem {w : World} {base : Nat} {v : Value} {zs : List ZR} (h : w.ownsRow base 30 1 v zs.length (zs.map pvF)) (hne : zs ≠ []) : ∃ g cap, v = .slice (some ⟨g, 0, none⟩) zs.length cap ∧ ∀ k (hk : k < zs.length), w.cell? ⟨g, k, none⟩ = some (pvF zs[k]) := by
  rcases h.2 with ⟨-, q⟩ | ⟨g, cap, cur, h1, h2, h3, h4, h5, h6, h7⟩
  · exact absurd (List.length_eq_zero_iff.1 q) hne
  · refine ⟨g, cap, h1, fun k hk => ?_⟩
    have e : cur.toList[k]? = some (pvF zs[k]) := by
      have := congrArg (fun l => l[k]?) h7
      simp only [Nat.mul_one] at this
      rw [List.getElem?_take_of_lt hk] at this
      rw [this]
      simp [hk]
    have e' : cur[k]? = some (pvF zs[k]) := by simpa using e
    simp [World.cell?, h3, e']
def fitE (n k : Nat) : Int := if k = n then 0 else 11
theorem fits_any (fb zb n k : Nat) (d : Row) (w : World) (c0 : w.cell? ⟨fb, 0, none⟩ = some (.int .i64 n)) (hz : ZoneAt w zb k d) :
    Calls Try.prog 53 #[.pointer (some ⟨fb, 0, none⟩), .pointer (some ⟨zb, 0, none⟩)] w fun e w' => e = .returned (.int .i64 (fitE n k)) ∧ Below w.heap.size w w' := by
  have HD := hideD (fun w' (h : Below w.heap.size w w') => zdim_any zb k d w' (hz.past h))
  clear hz
  obtain ⟨t, ht⟩ : ∃ t, ((k : Int) == (n : Int)) = t := ⟨_, rfl⟩
  have HE : Hid (fitE n k = if t = true then 0 else 11) := by
    show _ = _
    rw [← ht]
    unfold fitE
    by_cases c : k = n
    · subst c
      simp
    · have c' : ¬ (k : Int) = (n : Int) := by omega
      simp [c, c']
  generalize fitE n k = E at *
  cases t with
  | true =>
    obtain rfl : E = 0 := HE.out
    clear HE
    go_enter Try.func53, Try.ntmps53
    go_wp2_with fail
    go_region_held3 (fun w' => Below w.heap.size w w' ∧ w'.cell? ⟨fb, 0, none⟩ = some (.int .i64 n))
      (first | exact ⟨by first | assumption | exact Below.refl _ _ | exact Below.drew (Below.refl _ _) | exact Below.drew (by assumption), by first | assumption | simp [go_sem, *]⟩ | go_keep)
      (first | (go_at_call 41; refine (HD.out _ (by first | assumption | exact Below.refl _ _ | exact Below.drew (Below.refl _ _) | exact Below.drew (by assumption))).mono ?_; rintro e' w' ⟨rfl, rfl⟩))
    all_goals
      go_wp2_with fail
      go_ret
      exact ⟨rfl, by first | assumption | exact Below.drew (Below.refl _ _)⟩
  | false =>
    obtain rfl : E = 11 := HE.out
    clear HE
    go_enter Try.func53, Try.ntmps53
    go_wp2_with fail
    go_region_held3 (fun w' => Below w.heap.size w w' ∧ w'.cell? ⟨fb, 0, none⟩ = some (.int .i64 n))
      (first | exact ⟨by first | assumption | exact Below.refl _ _ | exact Below.drew (Below.refl _ _) | exact Below.drew (by assumption), by first | assumption | simp [go_sem, *]⟩ | go_keep)
      (first | (go_at_call 41; refine (HD.out _ (by first | assumption | exact Below.refl _ _ | exact Below.drew (Below.refl _ _) | exact Below.drew (by assumption))).mono ?_; rintro e' w' ⟨rfl, rfl⟩))
    all_goals
      go_wp2_with fail
      go_ret
      exact ⟨rfl, by first | assumption | exact Below.drew (Below.refl _ _)⟩
end Go.Proofs.Ytnfkmpickmonoaa
