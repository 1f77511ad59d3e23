/-
  A range over a function whose elements lie in memory that the function has made: the law, with what each element is told to be.
-/
import Derived.RangeFuncNested
import Derived.RangeFuncBound
import Derived.RangeFuncCalls
import Derived.RangeFuncLeaves
import Derived.Test.YtnfkmpickmonoaaGreatQ18
namespace Go.Proofs.YtnfkmpickmonoaaGreat
open Go.RowKit
set_option linter.unusedVariables false
/-- The books of a range: its record, and the block of what is put off. -/
structure Books (rec : LoopState → Option Code → Loop) (D : Nat) (st : LoopState) (pe : Option Code) (W : World) : Prop where
  loop : W.heap[D + 1]? = some (.loop (rec st pe))
  off : W.heap[D]? = some (.deferred (some []))
theorem Books.lt {rec : LoopState → Option Code → Loop} {D : Nat} {st : LoopState} {pe : Option Code} {W : World} (h : Books rec D st pe W) : D + 1 < W.heap.size := (Array.getElem?_eq_some_iff.1 h.loop).1
theorem Books.put {rec : LoopState → Option Code → Loop} {D : Nat} {st st' : LoopState} {pe pe' : Option Code} {W : World} (h : Books rec D st pe W) : Books rec D st' pe' (W.putObj (D + 1) (.loop (rec st' pe'))) :=
  ⟨World.putObj_heap_same h.lt, (World.putObj_heap_other (by omega)).trans h.off⟩
theorem Books.kept {rec : LoopState → Option Code → Loop} {D : Nat} {st : LoopState} {pe : Option Code} {W W' : World} (h : Books rec D st pe W) (k : KeepsFrom D W W') : Books rec D st pe W' :=
  ⟨k.same _ _ (by omega) h.loop rfl, k.same _ _ (Nat.le_refl _) h.off rfl⟩
theorem Books.abides {rec : LoopState → Option Code → Loop} {D : Nat} {st : LoopState} {pe : Option Code} {W W' : World} {row : Option Nat} (h : Books rec D st pe W) (hg : W.grownBy W' row) (hr : ∀ r, row = some r → D + 2 ≤ r) : Books rec D st pe W' :=
  ⟨(hg.block _ (by have := h.lt; omega) (fun e => by have := hr _ e.symm; omega)).trans h.loop, (hg.block _ (by have := h.lt; omega) (fun e => by have := hr _ e.symm; omega)).trans h.off⟩
theorem Books.store {rec : LoopState → Option Code → Loop} {D : Nat} {st : LoopState} {pe : Option Code} {W : World} (h : Books rec D st pe W) {b : Nat} {v : Value} (hv : W.cell? ⟨b, 0, none⟩ = some v) (u : Value) : Books rec D st pe (W.setCell ⟨b, 0, none⟩ u) := by
  have ne : ∀ k o, W.heap[k]? = some o → o.isCells = false → k ≠ b := fun k o hk ho e => by
    subst e
    unfold World.cell? at hv
    rw [hk] at hv
    cases o <;> simp_all [Obj.isCells]
  exact ⟨(Below.heap_setCell _ _ _ _ (ne _ _ h.loop rfl)).trans h.loop, (Below.heap_setCell _ _ _ _ (ne _ _ h.off rfl)).trans h.off⟩
theorem keepsFrom_put {W : World} {B l : Nat} {o : Obj} (h : l < B) : KeepsFrom B W (W.putObj l o) := ⟨by simp, fun k p hk hp _ => (World.putObj_heap_other (by omega)).trans hp⟩
theorem keepsFrom_up {B B' : Nat} {W W' : World} (h : KeepsFrom B W W') (hb : B ≤ B') : KeepsFrom B' W W' := ⟨h.size, fun k o hk => h.same k o (by omega)⟩
theorem range_told {F : Fence} {n : Nat} {P : Program} {α : Type} {g : Operand} {ps : Array Tmp} {assign body : Code} {Q : Exit → Act → World → Prop} {a : Act} {w : World}
    (hro : F.round = none) (h1 : 1 ≤ n) {gf : Nat} {lb : Array Value} (hg : a.eval g = .func (.func gf) #[] lb) (hFg : F.fn gf) (eg : ∀ args w, (callFunc gf args).run P w = .ok (.enter gf args) w)
    (encs : α → Array Value) (hps : ∀ x, (encs x).size = ps.size) (T : α → World → Prop) (Kp : World → World → Prop) (S Sp : List α → Prop) (St : World → Nat → Prop) (hSt : ∀ A b, St A b → ∃ v, A.cell? ⟨b, 0, none⟩ = some v)
    (hT : ∀ x W l o o', T x W → W.heap[l]? = some o → o.isCells = false → T x (W.putObj l o'))
    (hseq : ∀ (l : Nat) (J Jx : List α → World → Prop) (W : World), Below w.heap.size w W → w.heap.size + 2 ≤ W.heap.size → OwnFrom W.heap.size J → OwnFrom W.heap.size Jx → (∀ s A b u, J s A → St A b → J s (A.setCell ⟨b, 0, none⟩ u)) →
      (∀ pre x W1, J pre W1 → T x W1 → YieldAt F (n - 1 - 1) P l (encs x) W1 fun e W' => (e = .returned (.bool true) ∧ J (pre ++ [x]) W' ∧ Kp W1 W') ∨ (e = .returned (.bool false) ∧ Jx (pre ++ [x]) W' ∧ KeepsFrom (w.heap.size + 2) W1 W')) →
      J [] W → CallsIn F (n - 1) P gf (#[.func (.yield l) #[] #[]] ++ lb) W fun e W' => (∃ v, e = .returned v) ∧ ((∃ xs, S xs ∧ J xs W') ∨ (∃ pre, Sp pre ∧ Jx pre W')))
    (hKt : ∀ {A B C : World}, Kp A B → Kp B C → Kp A C) (hKb : ∀ (W : World) (o o' : Obj), W.heap[w.heap.size + 1]? = some o → o.isCells = false → Kp W (W.putObj (w.heap.size + 1) o'))
    (I : List α → World → Prop) (Ix : Code → List α → World → Prop) (hI : OwnFrom w.heap.size I) (hIx : ∀ c, OwnFrom w.heap.size (Ix c)) (h0 : I [] w) (hIs : ∀ s A b u, I s A → St A b → I s (A.setCell ⟨b, 0, none⟩ u))
    (a1 : α → Act)
    (hassign : ∀ (l : Nat) (x : α) (W : World) (K : Act → World → Prop), K (a1 x) W → assign.wpIn (F.inRound l) (n - 1 - 1) P (Exit.then K (fun _ _ _ => False)) { tmps := (ps.zip (encs x)).foldl (fun t (p, v) => t.setIfInBounds p v) a.tmps, defers := [] } W)
    (hbody : ∀ (l : Nat) (pre : List α) (x : α) (W : World), w.heap.size ≤ l → I pre W → T x W → body.wpIn (F.inRound l) (n - 1 - 1) P (ownPostG w.heap.size Kp I Ix (pre ++ [x]) W) (a1 x) W)
    (hdone : ∀ (D : Nat) (xs : List α) (W : World), w.heap.size ≤ D → S xs → I xs W → W.heap[D]? = some (.deferred (some [])) → Q .normal { a with defers := { target := .collected D, args := #[] } :: a.defers } W)
    (hstop : ∀ (D : Nat) (c : Code) (pre : List α) (W : World), w.heap.size ≤ D → Sp pre → Ix c pre W → W.heap[D]? = some (.deferred (some [])) → c.wpIn F n P Q { a with defers := { target := .collected D, args := #[] } :: a.defers } W) :
    (Code.rangeFunc g ps assign body).wpIn F n P Q a w := by
  refine wpIn_rangeFunc fun fn hfn => ?_
  rw [hro]
  obtain ⟨D, hD⟩ : ∃ D, w.heap.size = D := ⟨_, rfl⟩
  obtain ⟨rec, hrec⟩ : ∃ rec : LoopState → Option Code → Loop, ∀ st pe, rec st pe = { state := st, pending := pe, fn, tmps := a.tmps, params := ps, assign, body, defers := D } := ⟨fun st pe => { state := st, pending := pe, fn, tmps := a.tmps, params := ps, assign, body, defers := D }, fun _ _ => rfl⟩
  obtain ⟨V, hV⟩ : ∃ V, (w.alloc (.deferred (some []))).alloc (.loop (rec .ready none)) = V := ⟨_, rfl⟩
  have bV : Books rec D .ready none V := by
    rw [← hV, ← hD]
    refine ⟨?_, (Below.heap_alloc _ _ _ (by simp)).trans (World.alloc_heap_new w _)⟩
    have := World.alloc_heap_new (w.alloc (.deferred (some []))) (.loop (rec .ready none))
    rwa [World.size_alloc] at this
  have iV : I [] V := by rw [← hV]; exact hI.alloc _ (hI.alloc _ h0)
  have lV : Below w.heap.size w V := by rw [← hV]; exact ((Below.refl _ w).alloc (Nat.le_refl _) _).alloc (by simp) _
  have sV : V.heap.size = D + 2 := by rw [← hV, ← hD]; simp
  have swap : ∀ {A : World} {row : Option Nat}, (∀ r, row = some r → V.heap.size ≤ r ∧ ∃ o : Obj, A.heap[r]? = some o ∧ o.isCells = false) → ∀ r, row = some r → w.heap.size ≤ r ∧ ∃ o : Obj, A.heap[r]? = some o ∧ o.isCells = false := fun hr r e => ⟨by have := (hr r e).1; omega, (hr r e).2⟩
  refine ⟨D + 1, [{ target := .collected D, args := #[] }], V, { target := .fn (.func gf) lb, args := #[.func (.yield (D + 1)) #[] #[]] }, V, gf, #[.func (.yield (D + 1)) #[] #[]] ++ lb, V, ?_, ?_, ?_, ?_, fun _ => h1, ?_⟩
  · have := run_enterLoop_outer (P := P) (w := w) fn a.tmps ps assign body
    rw [hD, ← hrec] at this
    rw [this, hV]
  · simp only [resolve, hg]
    simp [go_sem]
  · intro f' hf'
    simp [Target.leads] at hf'
    subst hf'
    exact hFg
  · simp [invoke, go_sem, eg]
  · refine (hseq (D + 1) (fun pre W => I pre W ∧ Books rec D .ready none W) (fun pre W => ∃ c, Ix c pre W ∧ Books rec D .done (some c) W) V lV (by omega)
      (fun s A B row hs hgr hr => ⟨hI s A B row hs.1 hgr (swap hr), hs.2.abides hgr fun r e => by have := (hr r e).1; omega⟩)
      (fun s A B row hs hgr hr => by
        obtain ⟨c, h2, h3⟩ := hs
        exact ⟨c, hIx c s A B row h2 hgr (swap hr), h3.abides hgr fun r e => by have := (hr r e).1; omega⟩)
      (fun s A b u hs hb => by
        obtain ⟨v, hv⟩ := hSt A b hb
        exact ⟨hIs s A b u hs.1 hb, hs.2.store hv u⟩) ?_ ⟨iV, bV⟩).mono ?_
    · rintro pre x W ⟨hi, hb⟩ ht
      have hy := run_yield (P := P) (args := encs x) hb.loop (by rw [hrec]; exact hps x)
      rw [hrec] at hy
      refine ⟨fn, _, assign, body, hy, roundIn_of_wpIn hfn (hassign _ x W _ ?_)⟩
      have hb2 : Books rec D .busy none (W.putObj (D + 1) (.loop (rec .busy none))) := hb.put
      have run1 := run_beginRound (P := P) hb.loop (by rw [hrec])
      have e1 : ({ rec .ready none with state := .busy } : Loop) = rec .busy none := by rw [hrec, hrec]
      rw [e1] at run1
      refine ⟨_, run1, ?_⟩
      have kp1 : Kp W (W.putObj (D + 1) (.loop (rec .busy none))) := (by rw [← hD]; exact hKb _ _ _ (by rw [hD]; exact hb.loop) rfl)
      refine wpIn_mono (hbody _ pre x _ (by omega) (hI.putObj _ hi (by omega) hb.loop rfl) (hT x W _ _ _ ht hb.loop rfl)) ?_
      have kf : ∀ (W3 : World) (o : Obj), KeepsFrom D (W.putObj (D + 1) (.loop (rec .busy none))) W3 → KeepsFrom (w.heap.size + 2) W (W3.putObj (D + 1) o) := fun W3 o h3 => by
        rw [hD]
        exact ((keepsFrom_put (by omega)).trans (keepsFrom_up h3 (by omega))).trans (keepsFrom_put (by omega))
      have last : ∀ (jump : Option Code) (W3 : World), KeepsFrom D (W.putObj (D + 1) (.loop (rec .busy none))) W3 → (Instr.endRound (D + 1) jump).run P W3 = .ok (.bool jump.isNone) (W3.putObj (D + 1) (.loop (rec (if jump.isNone then .ready else .done) jump))) ∧ Books rec D .busy none W3 := fun jump W3 h3 => by
        have hb3 := hb2.kept h3
        have := run_endRound (P := P) jump hb3.loop
        have e2 : ({ rec .busy none with state := if jump.isNone then .ready else .done, pending := jump } : Loop) = rec (if jump.isNone then .ready else .done) jump := by rw [hrec, hrec]
        rw [e2] at this
        exact ⟨this, hb3⟩
      rintro e a3 W3 hp
      cases e with
      | normal =>
        obtain ⟨h3, hk, hi3⟩ := hp
        rw [hD] at h3
        obtain ⟨hr, hb3⟩ := last none W3 h3
        exact ⟨_, _, hr, .inl ⟨rfl, ⟨hI.putObj _ hi3 (by omega) hb3.loop rfl, hb3.put⟩, hKt kp1 (hKt hk (by rw [← hD]; exact hKb _ _ _ (by rw [hD]; exact hb3.loop) rfl))⟩⟩
      | ret =>
        obtain ⟨h3, hi3⟩ := hp
        rw [hD] at h3
        obtain ⟨hr, hb3⟩ := last (some .ret) W3 h3
        exact ⟨_, _, hr, .inr ⟨rfl, ⟨Code.ret, (hIx _).putObj _ hi3 (by omega) hb3.loop rfl, hb3.put⟩, kf _ _ h3⟩⟩
      | exit id =>
        obtain ⟨h3, hi3⟩ := hp
        rw [hD] at h3
        obtain ⟨hr, hb3⟩ := last (some (.exit id)) W3 h3
        exact ⟨_, _, hr, .inr ⟨rfl, ⟨Code.exit id, (hIx _).putObj _ hi3 (by omega) hb3.loop rfl, hb3.put⟩, kf _ _ h3⟩⟩
      | goto t =>
        obtain ⟨h3, hi3⟩ := hp
        rw [hD] at h3
        obtain ⟨hr, hb3⟩ := last (some (.goto t)) W3 h3
        exact ⟨_, _, hr, .inr ⟨rfl, ⟨Code.goto t, (hIx _).putObj _ hi3 (by omega) hb3.loop rfl, hb3.put⟩, kf _ _ h3⟩⟩
      | panic ch => exact hp.elim
      | outgrown => exact hp.elim
    · rintro e W2 ⟨⟨v, rfl⟩, h2⟩
      rcases h2 with ⟨xs, hS, hi, hb⟩ | ⟨pre, hSp, c, hi, hb⟩
      · have hr := run_endLoop (P := P) hb.loop (by rw [hrec]; simp)
        rw [hrec] at hr
        exact ⟨none, _, hr, hdone D xs _ (by omega) hS (hI.putObj _ hi (by omega) hb.loop rfl) ((World.putObj_heap_other (by omega)).trans hb.off)⟩
      · have hr := run_endLoop (P := P) hb.loop (by rw [hrec]; simp)
        rw [hrec] at hr
        exact ⟨some c, _, hr, hstop D c pre _ (by omega) hSp ((hIx c).putObj _ hi (by omega) hb.loop rfl) ((World.putObj_heap_other (by omega)).trans hb.off)⟩
end Go.Proofs.YtnfkmpickmonoaaGreat
