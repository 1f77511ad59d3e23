/-
  Slices of whole numbers inside an array, opened, with the bound on their bytes.
-/
import Derived.Test.YtfhfdpapppgfpaaGreatDoorOmz
import Derived.SizedLaws
namespace Go.Proofs.YtfhfdpapppgfpaaGreatDoor
open Go.ChangeShapes Go.WideShapes Go.ChangeAt Go.RowKit Go.Deep
set_option linter.unusedVariables false
theorem wts_all {H : Type} {P : Program} {e : TypeId} : ∀ {ds : List (DataW H)} {d : DataW H}, d ∈ ds → ∀ n ∈ d.weights P e, n ∈ DataW.weightsAll P e ds
  | [], d, h, _, _ => by cases h
  | a :: r, d, h, n, hn => by
    simp only [DataW.weightsAll, List.mem_append]
    rcases List.mem_cons.1 h with rfl | h
    · exact Or.inl hn
    · exact Or.inr (wts_all h n hn)
theorem wts_param {H : Type} {P : Program} {ts : List TypeId} {ds : List (DataW H)} (h : (DataW.weightsEach P ts ds).all (· ≤ reachBytes) = true) {j : Nat} {t : TypeId} {d : DataW H} (ht : ts[j]? = some t) (hd : ds[j]? = some d) : ∀ n ∈ d.weights P t, n ≤ reachBytes := fun n hn => of_decide_eq_true (List.all_eq_true.1 h _ (DataW.weights_mem_each ht hd n hn))
theorem open_isW {H : Type} {enc : TypeId × Value → H} {P : Program} {w : World} {base : Nat} {spare : Nat → Bool} {held : Bool} {fuel : Nat} {t e : TypeId} {v : Value} {x : DataW H × List MemPlace}
    (ht : P.underlying t = some (.slice e)) (he : P.underlying e = some (.int .i64)) (hc : P.cellsOf e = 1) (hb : P.bytesOf e = 8) (h : DataW.trod enc P w base spare held fuel t [v] = some x) (hw : ∀ n ∈ x.1.weights P t, n ≤ reachBytes) : ∃ l : List Int, IntsAt w v l ∧ (∀ z ∈ l, (Lit.int .i64 z).wf = true) ∧ l.length * 8 ≤ 140737488355328 ∧ (v = .slice none 0 0 ∨ ∃ a c, v = .slice (some a) l.length c) := by
  rcases open_ints ht he hc h with ⟨hcs, _⟩ | ⟨a, len, cap, zs, hcs, _, hl, hm, hz, hx, hcell, hwz⟩
  · simp at hcs
    exact ⟨[], .inl ⟨_, _, hcs, rfl⟩, by simp, by simp, .inl hcs⟩
  · simp at hcs
    subst hcs
    have hlz : len ≤ zs.length := by rw [hz]; split <;> omega
    have tl : (zs.take len).length = len := by simp; omega
    have hs : (len + (zs.length - len)) * P.bytesOf e ≤ reachBytes := by
      refine hw _ ?_
      rw [hx]
      simp only [DataW.weights, ht, lits, List.length_map, List.length_take, List.length_drop, List.mem_cons]
      left
      rw [Nat.min_eq_left hlz]
    rw [hb] at hs
    have hr : reachBytes ≤ 140737488355328 := by decide
    refine ⟨zs.take len, ?_, fun z hz' => hwz z (List.mem_of_mem_take hz'), by rw [tl]; omega, .inr ⟨a, cap, by rw [tl]⟩⟩
    by_cases hp : 0 < len
    · obtain ⟨bk, off, rfl, hc⟩ := ints_at hcell (by omega)
      refine .inr ⟨bk, off, cap, by rw [tl], fun j hj => ?_⟩
      rw [tl] at hj
      rw [hc j (by omega)]
      simp [List.getD, hj]
    · obtain rfl : len = 0 := by omega
      exact .inl ⟨_, _, rfl, by simp⟩
theorem open_isW_array {H : Type} {enc : TypeId × Value → H} {P : Program} {w : World} {r : Reach} {b0 base : Nat} {spare : Nat → Bool} {held : Bool} {t e e2 : TypeId} {n : Nat} {v : Value} {d : DataW H} {p : List MemPlace}
    (ht : P.underlying t = some (.array n e)) (he : P.underlying e = some (.slice e2)) (he2 : P.underlying e2 = some (.int .i64)) (hc2 : P.cellsOf e2 = 1) (hb2 : P.bytesOf e2 = 8) (hce : P.cellsOf e = 1) (hct : P.cellsOf t = n)
    (hv : Value.okWide P w r b0 t v) (h : DataW.Trod enc P w base spare held t v d p) (hw : ∀ k ∈ d.weights P t, k ≤ reachBytes) :
    ∃ vs : List Value, vs.length = n ∧ v = .agg vs.toArray ∧ ∀ u ∈ vs, ∃ l : List Int, IntsAt w u l ∧ (∀ z ∈ l, (Lit.int .i64 z).wf = true) ∧ l.length * 8 ≤ 140737488355328 ∧ (u = .slice none 0 0 ∨ ∃ a c, u = .slice (some a) l.length c) := by
  simp only [Value.okWide, ht] at hv
  obtain ⟨cs, rfl, hsz, _⟩ := hv
  obtain ⟨fuel, hf⟩ := h
  obtain ⟨xs, m, rfl, hx, hlen, hn, hel⟩ := DataW.trod_array ht hf
  have hd : d = .agg (xs.map (·.1)) := (Prod.mk.inj hx).1
  rw [hct] at hsz
  refine ⟨cs.toList, by simpa using hsz, by simp, fun u hu => ?_⟩
  obtain ⟨i, hi, rfl⟩ := List.mem_iff_getElem.1 hu
  have hi' : i < n := by simpa [hsz] using hi
  have h1 := hel i hi'
  rw [hce] at h1
  obtain ⟨y, hy⟩ : ∃ y, xs[i]? = some y := ⟨_, List.getElem?_eq_getElem (by omega)⟩
  rw [hy] at h1
  have e1 : (List.take 1 (List.drop (i * 1) (Value.agg cs).cells.toList)) = [cs.toList[i]] := by
    simp only [Value.cells, Nat.mul_one]
    rw [List.drop_eq_getElem_cons hi]
    rfl
  rw [e1] at h1
  refine open_isW he he2 hc2 hb2 h1 fun k hk => hw k ?_
  rw [hd]
  simp only [DataW.weights, ht]
  exact wts_all (List.mem_map_of_mem (List.mem_of_getElem? hy)) k hk
theorem open_isW_array2 {H : Type} {enc : TypeId × Value → H} {P : Program} {w : World} {r : Reach} {b0 base : Nat} {spare : Nat → Bool} {held : Bool} {t e e2 : TypeId} {v : Value} {d : DataW H} {p : List MemPlace}
    (ht : P.underlying t = some (.array 2 e)) (he : P.underlying e = some (.slice e2)) (he2 : P.underlying e2 = some (.int .i64)) (hc2 : P.cellsOf e2 = 1) (hb2 : P.bytesOf e2 = 8) (hce : P.cellsOf e = 1) (hct : P.cellsOf t = 2)
    (hv : Value.okWide P w r b0 t v) (h : DataW.Trod enc P w base spare held t v d p) (hw : ∀ k ∈ d.weights P t, k ≤ reachBytes) :
    ∃ (v0 : Value) (l0 : List Int) (v1 : Value) (l1 : List Int), v = .agg #[v0, v1] ∧ (IntsAt w v0 l0 ∧ (∀ z ∈ l0, (Lit.int .i64 z).wf = true) ∧ l0.length * 8 ≤ 140737488355328 ∧ (v0 = .slice none 0 0 ∨ ∃ a c, v0 = .slice (some a) l0.length c)) ∧ (IntsAt w v1 l1 ∧ (∀ z ∈ l1, (Lit.int .i64 z).wf = true) ∧ l1.length * 8 ≤ 140737488355328 ∧ (v1 = .slice none 0 0 ∨ ∃ a c, v1 = .slice (some a) l1.length c)) := by
  obtain ⟨vs, hl, hv, hw⟩ := open_isW_array ht he he2 hc2 hb2 hce hct hv h hw
  match vs, hl with
  | [x, y], _ =>
    obtain ⟨l0, h0⟩ := hw x (by simp)
    obtain ⟨l1, h1⟩ := hw y (by simp)
    exact ⟨x, l0, y, l1, hv, h0, h1⟩
theorem open_isW_array3 {H : Type} {enc : TypeId × Value → H} {P : Program} {w : World} {r : Reach} {b0 base : Nat} {spare : Nat → Bool} {held : Bool} {t e e2 : TypeId} {v : Value} {d : DataW H} {p : List MemPlace}
    (ht : P.underlying t = some (.array 3 e)) (he : P.underlying e = some (.slice e2)) (he2 : P.underlying e2 = some (.int .i64)) (hc2 : P.cellsOf e2 = 1) (hb2 : P.bytesOf e2 = 8) (hce : P.cellsOf e = 1) (hct : P.cellsOf t = 3)
    (hv : Value.okWide P w r b0 t v) (h : DataW.Trod enc P w base spare held t v d p) (hw : ∀ k ∈ d.weights P t, k ≤ reachBytes) :
    ∃ (v0 : Value) (l0 : List Int) (v1 : Value) (l1 : List Int) (v2 : Value) (l2 : List Int), v = .agg #[v0, v1, v2] ∧ (IntsAt w v0 l0 ∧ (∀ z ∈ l0, (Lit.int .i64 z).wf = true) ∧ l0.length * 8 ≤ 140737488355328 ∧ (v0 = .slice none 0 0 ∨ ∃ a c, v0 = .slice (some a) l0.length c)) ∧ (IntsAt w v1 l1 ∧ (∀ z ∈ l1, (Lit.int .i64 z).wf = true) ∧ l1.length * 8 ≤ 140737488355328 ∧ (v1 = .slice none 0 0 ∨ ∃ a c, v1 = .slice (some a) l1.length c)) ∧ (IntsAt w v2 l2 ∧ (∀ z ∈ l2, (Lit.int .i64 z).wf = true) ∧ l2.length * 8 ≤ 140737488355328 ∧ (v2 = .slice none 0 0 ∨ ∃ a c, v2 = .slice (some a) l2.length c)) := by
  obtain ⟨vs, hl, hv, hw⟩ := open_isW_array ht he he2 hc2 hb2 hce hct hv h hw
  match vs, hl with
  | [x, y, z], _ =>
    obtain ⟨l0, h0⟩ := hw x (by simp)
    obtain ⟨l1, h1⟩ := hw y (by simp)
    obtain ⟨l2, h2⟩ := hw z (by simp)
    exact ⟨x, l0, y, l1, z, l2, hv, h0, h1, h2⟩
end Go.Proofs.YtfhfdpapppgfpaaGreatDoor
