/-
  Book: a list of numbers or of nodes kept.
-/
import Derived.Test.YtgidlgmnkjoofaaDoorAo9
namespace Go.Proofs.YtgidlgmnkjoofaaDoor
open Go.RowKit
set_option linter.unusedVariables false
set_option maxRecDepth 100000
theorem info_intsT : (Tryd.prog.info? 26).map (fun i => (i.zero, i.size, i.bytes)) = some (some (.slice none 0 0), 1, 24) := by kernel_rfl
theorem take_stepI {w w7 : World} {Bk K : Nat} {f : Nat → Value} {v3 : Value} {Vs : List Value} (hB : BookF w Bk f) (ho : w.ownsRow (Bk + 1) 26 1 (f 2) K Vs) {xs : List Value} {o : Obj} (hown : w7.ownsRow (Bk + 1) 26 1 v3 (K + 1) xs)
    (hc : (v3.ownBlock = (f 2).ownBlock ∧ (f 2).ownBlock ≠ none ∧ (w.alloc o).grownBy w7 (f 2).ownBlock) ∨ (v3.ownBlock = some (w.alloc o).heap.size ∧ (w.alloc o).grownBy w7 none)) :
    w7.cell? ⟨Bk, 2, none⟩ = some (f 2) ∧ w7.frozen? ⟨Bk, 2, none⟩ = false ∧ Hid (BookF (w7.setCell ⟨Bk, 2, none⟩ v3) Bk (fun i => if i = 2 then v3 else f i)) ∧ Hid ((w7.setCell ⟨Bk, 2, none⟩ v3).ownsRow (Bk + 1) 26 1 v3 (K + 1) xs) ∧ Hid (Below Bk w (w7.setCell ⟨Bk, 2, none⟩ v3)) ∧
      Hid (∀ (e s n : Nat) (v : Value) (ys : List Value), e ≠ 26 → w.ownsRow (Bk + 1) e s v n ys → (w7.setCell ⟨Bk, 2, none⟩ v3).ownsRow (Bk + 1) e s v n ys) := by
  have lt := hB.lt
  have hr : ∀ b, (f 2).ownBlock = some b → Bk + 1 ≤ b := fun b e => (ho.lt b e).1
  have grw : ∃ r, (w.alloc o).grownBy w7 r ∧ ∀ b, r = some b → Bk + 1 ≤ b := by
    rcases hc with ⟨e1, e2, hg⟩ | ⟨e1, hg⟩
    · exact ⟨_, hg, hr⟩
    · exact ⟨_, hg, fun b e => by cases e⟩
  obtain ⟨r, hg, hgr⟩ := grw
  have same : ∀ k, k ≤ Bk → w7.heap[k]? = w.heap[k]? := fun k hk => (hg.block k (by simp; omega) (fun e => by have := hgr k e.symm; omega)).trans ((single w _).block k (by omega))
  have B7 := hB.past (same Bk (Nat.le_refl _))
  have v3b : v3.ownBlock ≠ some Bk := fun e => by have := (hown.lt Bk e).1; omega
  refine ⟨B7.c2, B7.free 2, B7.set2 v3, ownsRow_setCell_other (a := ⟨Bk, 2, none⟩) hown v3b v3, Below.setCell (p := ⟨Bk, 2, none⟩) (⟨hg.os, hg.tape, hg.output, by have := hg.size; simp at this; omega, fun k hk => same k (by omega)⟩ : Below Bk w w7) (Nat.le_refl _) v3, fun e s n v ys ne hy => ?_⟩
  refine ownsRow_setCell_other (a := ⟨Bk, 2, none⟩) ?_ (fun e => by have := (hy.lt Bk e).1; omega) v3
  rcases hc with ⟨e1, e2, hg⟩ | ⟨e1, hg⟩
  · exact (hy.alloc o).kept hg (own_types hy ho ne)
  · exact (hy.alloc o).kept hg (by cases v.ownBlock <;> simp)
set_option maxHeartbeats 1000000 in
theorem takeInts_any (Bk K ln cap : Nat) (f : Nat → Value) (ad : Option Addr) (Vs : List Value) (w : World) (hB : BookF w Bk f) (ho : w.ownsRow (Bk + 1) 26 1 (f 2) K Vs) (hK : K ≤ 1000000) :
    Calls Tryd.prog 13 #[.pointer (some ⟨Bk, 0, none⟩), .slice ad ln cap] w fun e w' => (∃ v, e = .returned v) ∧ ∃ rv', Hid (BookF w' Bk (fun i => if i = 2 then rv' else f i)) ∧ Hid (w'.ownsRow (Bk + 1) 26 1 rv' (K + 1) (Vs ++ [.slice ad ln cap])) ∧ Hid (Below Bk w w') ∧
      Hid (∀ (e s n : Nat) (v : Value) (ys : List Value), e ≠ 26 → w.ownsRow (Bk + 1) e s v n ys → w'.ownsRow (Bk + 1) e s v n ys) := by
  obtain ⟨j0, hj, hy0, hy1, hy2⟩ := info_parts info_intsT
  have c5 := hB.c2
  have hs : Bk + 1 ≤ w.heap.size := hB.lt
  obtain ⟨rv, hrv⟩ : ∃ rv, f 2 = rv := ⟨_, rfl⟩
  have HB := hideR hB
  have HO := hideR ho
  have HV := hideR hrv
  rw [hrv] at c5
  have HO2 := hideR ho
  rw [hrv] at HO2
  clear hB ho hrv
  go_enter Tryd.func13, Tryd.ntmps13
  go_wp2_with (at_builtin; refine wp_app_two _ rfl _ _ 36 rfl (Bk + 1) 26 j0 (.slice none 0 0) 1 24 Tryd.underlying36 hj hy0 hy1 hy2 rfl (by decide) rv K Vs rfl (HO2.out.alloc _) _ 1 [.slice ad ln cap] rfl rfl (cell_one_new _ _ _) (by simp [Value.oneCell']) (by unfold maxLen; omega) (by omega) (Nat.le_trans hs (by simp)) ?_; intro v3 w7 hown hc; obtain ⟨g3, c3, e3⟩ := own_some hown (Nat.succ_pos _); subst e3; rw [← HV.out] at hc; obtain ⟨d5, f5, h1, h2, h3, h4⟩ := take_stepI HB.out HO.out hown hc; rw [HV.out] at d5; clear hown hc)
  go_end0
  exact ⟨⟨_, rfl⟩, _, h1, h2, h3, h4⟩
theorem info_nodesT : (Tryd.prog.info? 23).map (fun i => (i.zero, i.size, i.bytes)) = some (some (.slice none 0 0), 1, 24) := by kernel_rfl
theorem take_stepN {w w7 : World} {Bk K : Nat} {f : Nat → Value} {v3 : Value} {Vs : List Value} (hB : BookF w Bk f) (ho : w.ownsRow (Bk + 1) 23 1 (f 8) K Vs) {xs : List Value} {o : Obj} (hown : w7.ownsRow (Bk + 1) 23 1 v3 (K + 1) xs)
    (hc : (v3.ownBlock = (f 8).ownBlock ∧ (f 8).ownBlock ≠ none ∧ (w.alloc o).grownBy w7 (f 8).ownBlock) ∨ (v3.ownBlock = some (w.alloc o).heap.size ∧ (w.alloc o).grownBy w7 none)) :
    w7.cell? ⟨Bk, 8, none⟩ = some (f 8) ∧ w7.frozen? ⟨Bk, 8, none⟩ = false ∧ Hid (BookF (w7.setCell ⟨Bk, 8, none⟩ v3) Bk (fun i => if i = 8 then v3 else f i)) ∧ Hid ((w7.setCell ⟨Bk, 8, none⟩ v3).ownsRow (Bk + 1) 23 1 v3 (K + 1) xs) ∧ Hid (Below Bk w (w7.setCell ⟨Bk, 8, none⟩ v3)) ∧
      Hid (∀ (e s n : Nat) (v : Value) (ys : List Value), e ≠ 23 → w.ownsRow (Bk + 1) e s v n ys → (w7.setCell ⟨Bk, 8, none⟩ v3).ownsRow (Bk + 1) e s v n ys) := by
  have lt := hB.lt
  have hr : ∀ b, (f 8).ownBlock = some b → Bk + 1 ≤ b := fun b e => (ho.lt b e).1
  have grw : ∃ r, (w.alloc o).grownBy w7 r ∧ ∀ b, r = some b → Bk + 1 ≤ b := by
    rcases hc with ⟨e1, e2, hg⟩ | ⟨e1, hg⟩
    · exact ⟨_, hg, hr⟩
    · exact ⟨_, hg, fun b e => by cases e⟩
  obtain ⟨r, hg, hgr⟩ := grw
  have same : ∀ k, k ≤ Bk → w7.heap[k]? = w.heap[k]? := fun k hk => (hg.block k (by simp; omega) (fun e => by have := hgr k e.symm; omega)).trans ((single w _).block k (by omega))
  have B7 := hB.past (same Bk (Nat.le_refl _))
  have v3b : v3.ownBlock ≠ some Bk := fun e => by have := (hown.lt Bk e).1; omega
  refine ⟨B7.c8, B7.free 8, B7.set8 v3, ownsRow_setCell_other (a := ⟨Bk, 8, none⟩) hown v3b v3, Below.setCell (p := ⟨Bk, 8, none⟩) (⟨hg.os, hg.tape, hg.output, by have := hg.size; simp at this; omega, fun k hk => same k (by omega)⟩ : Below Bk w w7) (Nat.le_refl _) v3, fun e s n v ys ne hy => ?_⟩
  refine ownsRow_setCell_other (a := ⟨Bk, 8, none⟩) ?_ (fun e => by have := (hy.lt Bk e).1; omega) v3
  rcases hc with ⟨e1, e2, hg⟩ | ⟨e1, hg⟩
  · exact (hy.alloc o).kept hg (own_types hy ho ne)
  · exact (hy.alloc o).kept hg (by cases v.ownBlock <;> simp)
set_option maxHeartbeats 1000000 in
theorem takeNodes_any (Bk K ln cap : Nat) (f : Nat → Value) (ad : Option Addr) (Vs : List Value) (w : World) (hB : BookF w Bk f) (ho : w.ownsRow (Bk + 1) 23 1 (f 8) K Vs) (hK : K ≤ 1000000) :
    Calls Tryd.prog 12 #[.pointer (some ⟨Bk, 0, none⟩), .slice ad ln cap] w fun e w' => (∃ v, e = .returned v) ∧ ∃ rv', Hid (BookF w' Bk (fun i => if i = 8 then rv' else f i)) ∧ Hid (w'.ownsRow (Bk + 1) 23 1 rv' (K + 1) (Vs ++ [.slice ad ln cap])) ∧ Hid (Below Bk w w') ∧
      Hid (∀ (e s n : Nat) (v : Value) (ys : List Value), e ≠ 23 → w.ownsRow (Bk + 1) e s v n ys → w'.ownsRow (Bk + 1) e s v n ys) := by
  obtain ⟨j0, hj, hy0, hy1, hy2⟩ := info_parts info_nodesT
  have c5 := hB.c8
  have hs : Bk + 1 ≤ w.heap.size := hB.lt
  obtain ⟨rv, hrv⟩ : ∃ rv, f 8 = rv := ⟨_, rfl⟩
  have HB := hideR hB
  have HO := hideR ho
  have HV := hideR hrv
  rw [hrv] at c5
  have HO2 := hideR ho
  rw [hrv] at HO2
  clear hB ho hrv
  go_enter Tryd.func12, Tryd.ntmps12
  go_wp2_with (at_builtin; refine wp_app_two _ rfl _ _ 22 rfl (Bk + 1) 23 j0 (.slice none 0 0) 1 24 Tryd.underlying22 hj hy0 hy1 hy2 rfl (by decide) rv K Vs rfl (HO2.out.alloc _) _ 1 [.slice ad ln cap] rfl rfl (cell_one_new _ _ _) (by simp [Value.oneCell']) (by unfold maxLen; omega) (by omega) (Nat.le_trans hs (by simp)) ?_; intro v3 w7 hown hc; obtain ⟨g3, c3, e3⟩ := own_some hown (Nat.succ_pos _); subst e3; rw [← HV.out] at hc; obtain ⟨d5, f5, h1, h2, h3, h4⟩ := take_stepN HB.out HO.out hown hc; rw [HV.out] at d5; clear hown hc)
  go_end0
  exact ⟨⟨_, rfl⟩, _, h1, h2, h3, h4⟩
end Go.Proofs.YtgidlgmnkjoofaaDoor
