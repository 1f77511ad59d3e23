/-
  Rows of values in memory; expr.turned.
-/
import Derived.Test.YtgidlgmnkjoofaaDoorPa
import Derived.Deep.OwnRows
namespace Go.Proofs.YtgidlgmnkjoofaaDoor
open Go.RowKit
set_option linter.unusedVariables false
/-- These values lie behind an address. -/
def RowV (W : World) (ad : Option Addr) (xs : List Value) : Prop := ∀ (j : Nat) (u : Value), xs[j]? = some u → ∃ b off, ad = some ⟨b, off, none⟩ ∧ W.cell? ⟨b, off + j, none⟩ = some u
theorem RowV.later {W w : World} {ad : Option Addr} {xs : List Value} (h : RowV W ad xs) (hb : Below W.heap.size W w) : RowV w ad xs := fun j u q => by
  obtain ⟨b, off, e, c⟩ := h j u q
  exact ⟨b, off, e, kc _ _ hb c⟩
theorem RowV.nil (W : World) (ad : Option Addr) : RowV W ad [] := fun j u q => by simp at q
theorem RowV.drop {W : World} {b off : Nat} {xs : List Value} (h : RowV W (some ⟨b, off, none⟩) xs) (k : Nat) : RowV W (some ⟨b, off + k, none⟩) (xs.drop k) := fun j u q => by
  rw [List.getElem?_drop] at q
  obtain ⟨b', off', e, c⟩ := h _ u q
  injection e with e
  injection e with e1 e2
  subst e1 e2
  exact ⟨_, _, rfl, by rw [Nat.add_assoc]; exact c⟩
theorem RowV.take {W : World} {ad : Option Addr} {xs : List Value} (h : RowV W ad xs) (k : Nat) : RowV W ad (xs.take k) := fun j u q => by
  rw [List.getElem?_take] at q
  split at q
  · exact h j u q
  · cases q
theorem own_rowV {W : World} {base : Nat} {e : TypeId} {size n : Nat} {v : Value} {xs : List Value} (h : W.ownsRow base e size v n xs) : ∃ ad cap, v = .slice ad n cap ∧ RowV W ad xs ∧ n ≤ cap := by
  rcases h.2 with ⟨hv, h0⟩ | ⟨g, cap, cur, hv, _, hg, hc, _, hs, ht⟩
  · subst h0
    refine ⟨none, 0, hv, fun j u q => ?_, Nat.le_refl _⟩
    have : xs = [] := List.eq_nil_of_length_eq_zero (by rw [h.1]; simp)
    rw [this] at q
    simp at q
  · refine ⟨_, cap, hv, fun j u q => ⟨g, 0, rfl, ?_⟩, hc⟩
    rw [← ht, List.getElem?_take] at q
    split at q
    · rw [Nat.zero_add]
      have q' : cur[j]? = some u := by rw [← Array.getElem?_toList]; exact q
      simp [World.cell?, hg, q']
    · cases q
theorem own_take {W : World} {base : Nat} {e : TypeId} {size n g : Nat} {cap : Nat} {xs : List Value} (h : W.ownsRow base e size (.slice (some ⟨g, 0, none⟩) n cap) n xs) (k : Nat) (hk : k ≤ n) : W.ownsRow base e size (.slice (some ⟨g, 0, none⟩) k cap) k (xs.take (k * size)) := by
  rcases h.2 with ⟨hv, _⟩ | ⟨g', cap', cur, hv, h1, h2, h3, h4, h5, h6⟩
  · cases hv
  · injection hv with e1 e2 e3
    injection e1 with e1
    injection e1 with e1
    subst e1 e3
    have hle : k * size ≤ n * size := Nat.mul_le_mul_right _ hk
    refine ⟨by rw [List.length_take, h.1]; omega, .inr ⟨_, _, cur, rfl, h1, h2, by omega, h4, h5, ?_⟩⟩
    rw [← h6, List.take_take, Nat.min_eq_left hle]
theorem own_below {W W' : World} {base : Nat} {e : TypeId} {size n : Nat} {v : Value} {xs : List Value} (h : W.ownsRow base e size v n xs) (hb : Below W.heap.size W W') : W'.ownsRow base e size v n xs :=
  h.kept (row := none) ⟨hb.os, hb.tape, hb.output, hb.size, fun k hk _ => hb.block k hk⟩ (by cases hv : v.ownBlock <;> simp)
/-- Where the cells of one of them lie. -/
theorem flat_at {α : Type} (f : α → List Value) (s : Nat) (hf : ∀ x, (f x).length = s) : ∀ (l : List α) (k : Nat) (h : k < l.length) (j : Nat), j < s → (l.flatMap f)[k * s + j]? = (f l[k])[j]?
  | [], k, h, j, _ => by simp at h
  | x :: l, 0, h, j, hj => by
    rw [List.flatMap_cons, Nat.zero_mul, Nat.zero_add, List.getElem?_append_left (by rw [hf]; exact hj)]
    rfl
  | x :: l, k + 1, h, j, hj => by
    have e : (k + 1) * s + j = s + (k * s + j) := by rw [Nat.succ_mul]; omega
    rw [List.flatMap_cons, e, List.getElem?_append_right (by rw [hf]; omega), hf, Nat.add_sub_cancel_left]
    exact flat_at f s hf l k (by simpa using h) j hj
theorem flat_len {α : Type} (f : α → List Value) (s : Nat) (hf : ∀ x, (f x).length = s) : ∀ l : List α, (l.flatMap f).length = l.length * s
  | [] => by simp
  | x :: l => by rw [List.flatMap_cons, List.length_append, hf, flat_len f s hf l, List.length_cons, Nat.succ_mul]; omega
theorem flat_drop {α : Type} (f : α → List Value) (s : Nat) (hf : ∀ x, (f x).length = s) : ∀ (l : List α) (k : Nat), (l.flatMap f).drop (k * s) = (l.drop k).flatMap f
  | [], k => by simp
  | x :: l, 0 => by simp
  | x :: l, k + 1 => by
    rw [List.flatMap_cons, List.drop_succ_cons, ← flat_drop f s hf l k, Nat.succ_mul, Nat.add_comm, ← List.drop_drop, List.drop_append_of_le_length (by rw [hf]; exact Nat.le_refl _), show (f x).drop s = [] from List.drop_of_length_le (by rw [hf]; exact Nat.le_refl _), List.nil_append]
theorem flat_take {α : Type} (f : α → List Value) (s : Nat) (hf : ∀ x, (f x).length = s) : ∀ (l : List α) (k : Nat), (l.flatMap f).take (k * s) = (l.take k).flatMap f
  | [], k => by simp
  | x :: l, 0 => by simp
  | x :: l, k + 1 => by
    rw [List.flatMap_cons, List.take_succ_cons, List.flatMap_cons, ← flat_take f s hf l k, Nat.succ_mul, Nat.add_comm, List.take_append, List.take_of_length_le (by rw [hf]; omega), hf, Nat.add_sub_cancel_left]
theorem rowV_at {α : Type} {W : World} {ad : Option Addr} {l : List α} {f : α → List Value} {s : Nat} (hf : ∀ x, (f x).length = s) (h : RowV W ad (l.flatMap f)) (hs : 0 < s) {k : Nat} (hk : k < l.length) : ∃ b off, ad = some ⟨b, off, none⟩ ∧ ∀ j, j < s → W.cell? ⟨b, off + (k * s + j), none⟩ = (f l[k])[j]? := by
  have h0 : (l.flatMap f)[k * s + 0]? = some ((f l[k])[0]'(by rw [hf]; exact hs)) := by rw [flat_at f s hf l k hk 0 hs, List.getElem?_eq_getElem]
  obtain ⟨b, off, e, c⟩ := h _ _ h0
  refine ⟨b, off, e, fun j hj => ?_⟩
  have hj' : (l.flatMap f)[k * s + j]? = some ((f l[k])[j]'(by rw [hf]; exact hj)) := by rw [flat_at f s hf l k hk j hj, List.getElem?_eq_getElem]
  obtain ⟨b', off', e', c'⟩ := h _ _ hj'
  rw [e] at e'
  injection e' with e'
  injection e' with e1 e2
  subst e1 e2
  rw [c', List.getElem?_eq_getElem]
theorem cell_one (w : World) (a : Value) (t : TypeId) : ∀ j u, [a][j]? = some u → (w.alloc (.cells #[a] t)).cell? ((⟨w.heap.size, 0, none⟩ : Addr).add j) = some u := by
  intro j u h
  have hadd : (⟨w.heap.size, 0, none⟩ : Addr).add j = ⟨w.heap.size, j, none⟩ := by unfold Addr.add; split <;> simp_all
  rw [hadd]
  match j, h with
  | 0, h => simpa [go_sem] using h
  | j + 1, h => simp at h
theorem cell_two (w : World) (a b : Value) (t : TypeId) : ∀ j u, [a, b][j]? = some u → (w.alloc (.cells #[a, b] t)).cell? ((⟨w.heap.size, 0, none⟩ : Addr).add j) = some u := by
  intro j u h
  have hadd : (⟨w.heap.size, 0, none⟩ : Addr).add j = ⟨w.heap.size, j, none⟩ := by unfold Addr.add; split <;> simp_all
  rw [hadd]
  match j, h with
  | 0, h => simpa [go_sem] using h
  | 1, h => simpa [go_sem] using h
  | j + 2, h => simp at h
abbrev KindC (k : Nat) : List Value := [.int .u8 (k : Int)]
abbrev Val := Int × Bool
abbrev ValC (v : Val) : List Value := [.int .i64 v.1, .bool v.2]
abbrev Txt := ByteArray × Nat
abbrev TxtC (t : Txt) : List Value := [.string t.1, .int .i64 (t.2 : Int)]
theorem infoK : (Tryd.prog.info? 68).map (fun i => (i.zero, i.size, i.bytes)) = some (some (.int .u8 0), 1, 1) := by kernel_rfl
theorem infoV : (Tryd.prog.info? 119).map (fun i => (i.zero, i.size, i.bytes)) = some (some (.agg #[.int .i64 0, .bool false]), 2, 16) := by kernel_rfl
theorem infoT : (Tryd.prog.info? 70).map (fun i => (i.zero, i.size, i.bytes)) = some (some (.agg #[.string ⟨#[]⟩, .int .i64 0]), 2, 24) := by kernel_rfl
set_option maxRecDepth 100000 in
set_option maxHeartbeats 2000000 in
theorem turnedK (ad : Option Addr) (cap : Nat) (l : List Nat) (w : World) (hV : RowV w ad (l.flatMap KindC)) (hl : l.length ≤ 64) : Calls Tryd.prog 76 #[.slice ad l.length cap] w fun e w' => ∃ v, e = .returned v ∧ w'.ownsRow w.heap.size 68 1 v l.length (l.reverse.flatMap KindC) ∧ Below w.heap.size w w' := by
  obtain ⟨i0, hi, hz0, hz1, hz2⟩ := info_parts infoK
  have HV := hideR hV
  clear hV
  generalize hn : l.length = n at *
  have HN := hideR hn
  clear hn
  have e0 : IntKind.i64.wrap ((n : Int) - 1) = (n : Int) - 1 := by rw [IntKind.wrap_i64]; omega
  go_enter Tryd.func76, Tryd.ntmps76
  go_wp2_with fail
  go_loopw [3, 4] (fun o i wr => ∃ (k : Nat) (v : Value), k ≤ n ∧ o = v ∧ i = .int .i64 ((k : Int) - 1) ∧ Hid (wr.ownsRow w.heap.size 68 1 v (n - k) ((l.drop k).reverse.flatMap KindC) ∧ Below w.heap.size w wr)) (fun _ i _ => (intOf i + 1).toNat)
  case atStart => exact ⟨n, _, Nat.le_refl _, rfl, rfl, by
    rw [Nat.sub_self, List.drop_of_length_le (by have := HN.out; omega)]
    exact ⟨World.ownsRow_nil _ _ _ _, Below.refl _ _⟩⟩
  case round =>
    obtain ⟨k, v, hk, hv, hi', E⟩ := hrel
    replace hv := hv.symm
    subst hv
    cases k with
    | zero =>
      rw [show ((0 : Nat) : Int) - 1 = -1 by rfl] at hi'
      subst hi'
      have E2 := E
      clear E
      go_wp2_with fail
      go_ret
      have h1 := E2.out.1
      rw [List.drop_zero, Nat.sub_zero] at h1
      exact ⟨_, rfl, h1, E2.out.2⟩
    | succ m =>
      rw [show ((m + 1 : Nat) : Int) - 1 = (m : Int) by omega] at hi'
      subst hi'
      have hm : m < l.length := by rw [HN.out]; omega
      obtain ⟨b, off, rfl, cc⟩ := rowV_at (s := 1) (fun _ => rfl) (HV.out.later (E.out.2)) (by decide) hm
      have D := hideR (List.drop_eq_getElem_cons hm)
      generalize l[m]'hm = z at *
      have c0 := cc 0 (by decide)
      simp only [KindC, List.getElem?_cons_zero, Nat.mul_one, Nat.add_zero] at c0
      clear cc

      have hrow := hideR E.out.1
      have HB := hideR E.out.2
      clear E
      have b1 : (m : Int) < (n : Int) := by omega
      have e1 : IntKind.i64.wrap ((m : Int) - 1) = (m : Int) - 1 := by rw [IntKind.wrap_i64]; omega
      have hmn := hideR (show n - (m + 1) + 1 = n - m by omega)
      have hpl := hideR (show n - (m + 1) + 1 ≤ 64 by omega)
      have kk := hideR hk
      have ll := hideR hl
      clear hk hl
      generalize n - (m + 1) = q at *
      go_wp2_with (at_builtin; refine wpList_append_own _ rfl _ _ 131 rfl w.heap.size 68 i0 (.int .u8 0) 1 1 Tryd.underlying131 hi hz0 hz1 hz2 rfl (by decide) _ _ _ rfl (hrow.out.alloc _) ⟨wr.heap.size, 0, none⟩ 1 1 [.int .u8 (z : Int)] rfl rfl (cell_one _ _ _) (by simp [Value.oneCell']) (by have := hpl.out; simp only [maxLen]; omega) (by have := hpl.out; omega) (by have := HB.out.size; simp; omega) ?_; intro v' w3 hown' hgrow _; have OW := hideR hown'; have GR := hideR hgrow; clear hown' hgrow)
      have hbw := ((HB.out.alloc HB.out.size _).grown GR.out (by have := HB.out.size; simp; omega) (fun k e => (hrow.out.lt k e).1))
      go_roundw
      case rel =>
        refine ⟨m, _, by have := kk.out; omega, rfl, by go_num, ⟨?_, hbw⟩⟩
        rw [D.out, List.reverse_cons, List.flatMap_append, ← hmn.out]
        exact OW.out
      case measure => first | (simp [intOf]; done) | (simp [intOf]; omega)
set_option maxRecDepth 100000 in
set_option maxHeartbeats 2000000 in
theorem turnedV (ad : Option Addr) (cap : Nat) (l : List Val) (w : World) (hV : RowV w ad (l.flatMap ValC)) (hl : l.length ≤ 64) : Calls Tryd.prog 70 #[.slice ad l.length cap] w fun e w' => ∃ v, e = .returned v ∧ w'.ownsRow w.heap.size 119 2 v l.length (l.reverse.flatMap ValC) ∧ Below w.heap.size w w' := by
  obtain ⟨i0, hi, hz0, hz1, hz2⟩ := info_parts infoV
  have HV := hideR hV
  clear hV
  generalize hn : l.length = n at *
  have HN := hideR hn
  clear hn
  have e0 : IntKind.i64.wrap ((n : Int) - 1) = (n : Int) - 1 := by rw [IntKind.wrap_i64]; omega
  go_enter Tryd.func70, Tryd.ntmps70
  go_wp2_with fail
  go_loopw [3, 4] (fun o i wr => ∃ (k : Nat) (v : Value), k ≤ n ∧ o = v ∧ i = .int .i64 ((k : Int) - 1) ∧ Hid (wr.ownsRow w.heap.size 119 2 v (n - k) ((l.drop k).reverse.flatMap ValC) ∧ Below w.heap.size w wr)) (fun _ i _ => (intOf i + 1).toNat)
  case atStart => exact ⟨n, _, Nat.le_refl _, rfl, rfl, by
    rw [Nat.sub_self, List.drop_of_length_le (by have := HN.out; omega)]
    exact ⟨World.ownsRow_nil _ _ _ _, Below.refl _ _⟩⟩
  case round =>
    obtain ⟨k, v, hk, hv, hi', E⟩ := hrel
    replace hv := hv.symm
    subst hv
    cases k with
    | zero =>
      rw [show ((0 : Nat) : Int) - 1 = -1 by rfl] at hi'
      subst hi'
      have E2 := E
      clear E
      go_wp2_with fail
      go_ret
      have h1 := E2.out.1
      rw [List.drop_zero, Nat.sub_zero] at h1
      exact ⟨_, rfl, h1, E2.out.2⟩
    | succ m =>
      rw [show ((m + 1 : Nat) : Int) - 1 = (m : Int) by omega] at hi'
      subst hi'
      have hm : m < l.length := by rw [HN.out]; omega
      obtain ⟨b, off, rfl, cc⟩ := rowV_at (s := 2) (fun _ => rfl) (HV.out.later (E.out.2)) (by decide) hm
      have D := hideR (List.drop_eq_getElem_cons hm)
      generalize l[m]'hm = z at *
      obtain ⟨x, y⟩ := z
      have c0 := cc 0 (by decide)
      have c1 := cc 1 (by decide)
      simp only [ValC, List.getElem?_cons_zero, List.getElem?_cons_succ, Nat.add_zero] at c0 c1
      rw [← Nat.add_assoc] at c1
      clear cc
      have hrow := hideR E.out.1
      have HB := hideR E.out.2
      clear E
      have b1 : (m : Int) < (n : Int) := by omega
      have e1 : IntKind.i64.wrap ((m : Int) - 1) = (m : Int) - 1 := by rw [IntKind.wrap_i64]; omega
      have hmn := hideR (show n - (m + 1) + 1 = n - m by omega)
      have hpl := hideR (show n - (m + 1) + 1 ≤ 64 by omega)
      have kk := hideR hk
      have ll := hideR hl
      clear hk hl
      generalize n - (m + 1) = q at *
      go_wp2_with (at_builtin; refine wpList_append_own _ rfl _ _ 122 rfl w.heap.size 119 i0 (.agg #[.int .i64 0, .bool false]) 2 16 Tryd.underlying122 hi hz0 hz1 hz2 rfl (by decide) _ _ _ rfl (hrow.out.alloc _) ⟨wr.heap.size, 0, none⟩ 1 1 [.int .i64 x, .bool y] rfl rfl (cell_two _ _ _ _) (by simp [Value.oneCell']) (by have := hpl.out; simp only [maxLen]; omega) (by have := hpl.out; omega) (by have := HB.out.size; simp; omega) ?_; intro v' w3 hown' hgrow _; have OW := hideR hown'; have GR := hideR hgrow; clear hown' hgrow)
      have hbw := ((HB.out.alloc HB.out.size _).grown GR.out (by have := HB.out.size; simp; omega) (fun k e => (hrow.out.lt k e).1))
      go_roundw
      case rel =>
        refine ⟨m, _, by have := kk.out; omega, rfl, by go_num, ⟨?_, hbw⟩⟩
        rw [D.out, List.reverse_cons, List.flatMap_append, ← hmn.out]
        exact OW.out
      case measure => first | (simp [intOf]; done) | (simp [intOf]; omega)
set_option maxRecDepth 100000 in
set_option maxHeartbeats 2000000 in
theorem turnedT (ad : Option Addr) (cap : Nat) (l : List Txt) (w : World) (hV : RowV w ad (l.flatMap TxtC)) (hl : l.length ≤ 64) : Calls Tryd.prog 59 #[.slice ad l.length cap] w fun e w' => ∃ v, e = .returned v ∧ w'.ownsRow w.heap.size 70 2 v l.length (l.reverse.flatMap TxtC) ∧ Below w.heap.size w w' := by
  obtain ⟨i0, hi, hz0, hz1, hz2⟩ := info_parts infoT
  have HV := hideR hV
  clear hV
  generalize hn : l.length = n at *
  have HN := hideR hn
  clear hn
  have e0 : IntKind.i64.wrap ((n : Int) - 1) = (n : Int) - 1 := by rw [IntKind.wrap_i64]; omega
  go_enter Tryd.func59, Tryd.ntmps59
  go_wp2_with fail
  go_loopw [3, 4] (fun o i wr => ∃ (k : Nat) (v : Value), k ≤ n ∧ o = v ∧ i = .int .i64 ((k : Int) - 1) ∧ Hid (wr.ownsRow w.heap.size 70 2 v (n - k) ((l.drop k).reverse.flatMap TxtC) ∧ Below w.heap.size w wr)) (fun _ i _ => (intOf i + 1).toNat)
  case atStart => exact ⟨n, _, Nat.le_refl _, rfl, rfl, by
    rw [Nat.sub_self, List.drop_of_length_le (by have := HN.out; omega)]
    exact ⟨World.ownsRow_nil _ _ _ _, Below.refl _ _⟩⟩
  case round =>
    obtain ⟨k, v, hk, hv, hi', E⟩ := hrel
    replace hv := hv.symm
    subst hv
    cases k with
    | zero =>
      rw [show ((0 : Nat) : Int) - 1 = -1 by rfl] at hi'
      subst hi'
      have E2 := E
      clear E
      go_wp2_with fail
      go_ret
      have h1 := E2.out.1
      rw [List.drop_zero, Nat.sub_zero] at h1
      exact ⟨_, rfl, h1, E2.out.2⟩
    | succ m =>
      rw [show ((m + 1 : Nat) : Int) - 1 = (m : Int) by omega] at hi'
      subst hi'
      have hm : m < l.length := by rw [HN.out]; omega
      obtain ⟨b, off, rfl, cc⟩ := rowV_at (s := 2) (fun _ => rfl) (HV.out.later (E.out.2)) (by decide) hm
      have D := hideR (List.drop_eq_getElem_cons hm)
      generalize l[m]'hm = z at *
      obtain ⟨x, y⟩ := z
      have c0 := cc 0 (by decide)
      have c1 := cc 1 (by decide)
      simp only [TxtC, List.getElem?_cons_zero, List.getElem?_cons_succ, Nat.add_zero] at c0 c1
      rw [← Nat.add_assoc] at c1
      clear cc
      have hrow := hideR E.out.1
      have HB := hideR E.out.2
      clear E
      have b1 : (m : Int) < (n : Int) := by omega
      have e1 : IntKind.i64.wrap ((m : Int) - 1) = (m : Int) - 1 := by rw [IntKind.wrap_i64]; omega
      have hmn := hideR (show n - (m + 1) + 1 = n - m by omega)
      have hpl := hideR (show n - (m + 1) + 1 ≤ 64 by omega)
      have kk := hideR hk
      have ll := hideR hl
      clear hk hl
      generalize n - (m + 1) = q at *
      go_wp2_with (at_builtin; refine wpList_append_own _ rfl _ _ 73 rfl w.heap.size 70 i0 (.agg #[.string ⟨#[]⟩, .int .i64 0]) 2 24 Tryd.underlying73 hi hz0 hz1 hz2 rfl (by decide) _ _ _ rfl (hrow.out.alloc _) ⟨wr.heap.size, 0, none⟩ 1 1 [.string x, .int .i64 (y : Int)] rfl rfl (cell_two _ _ _ _) (by simp [Value.oneCell']) (by have := hpl.out; simp only [maxLen]; omega) (by have := hpl.out; omega) (by have := HB.out.size; simp; omega) ?_; intro v' w3 hown' hgrow _; have OW := hideR hown'; have GR := hideR hgrow; clear hown' hgrow)
      have hbw := ((HB.out.alloc HB.out.size _).grown GR.out (by have := HB.out.size; simp; omega) (fun k e => (hrow.out.lt k e).1))
      go_roundw
      case rel =>
        refine ⟨m, _, by have := kk.out; omega, rfl, by go_num, ⟨?_, hbw⟩⟩
        rw [D.out, List.reverse_cons, List.flatMap_append, ← hmn.out]
        exact OW.out
      case measure => first | (simp [intOf]; done) | (simp [intOf]; omega)
end Go.Proofs.YtgidlgmnkjoofaaDoor
