/-
  A table of texts that is a package-level variable; lex.isKept, lex.IsName.
-/
import Derived.Test.YtdofnjlnleofjaaDoorLj
import Derived.Lib.LaidTab
namespace Go.Proofs.YtdofnjlnleofjaaDoor
open Go.RowKit
set_option linter.unusedVariables false
def strsData {H : Type} (zs : List (List UInt8)) : DataW H := .agg (zs.map fun z => .lit (.string z))
/-- A variable that holds just these texts. -/
def StrsIs (P : Program) (w : World) (name : String) (zs : List (List UInt8)) : Prop := w.var? P name = some (zs.map fun z => Value.string ⟨z.toArray⟩).toArray
theorem cells_of_strs {H : Type} {enc : TypeId × Value → H} {P : Program} {w : World} {base : Nat} {sp : Nat → Bool} {held : Bool} {fuel : Nat} {t e : TypeId} {n : Nat} {cs : List Value} {zs : List (List UInt8)} {p : List MemPlace}
    (ht : P.underlying t = some (.array n e)) (he : P.underlying e = some .string) (hce : P.cellsOf e = 1) (hct : P.cellsOf t = n)
    (h : DataW.trod enc P w base sp held fuel t cs = some (strsData zs, p)) : cs = zs.map fun z => Value.string ⟨z.toArray⟩ := by
  cases fuel with
  | zero => simp [DataW.trod] at h
  | succ fuel =>
    simp only [DataW.trod, ht, hce, hct, Nat.mul_one] at h
    split at h
    · rename_i hl
      obtain ⟨xs, hm, hx⟩ := Option.map_eq_some_iff.1 h
      have hxs : xs.map (·.1) = zs.map fun z => (DataW.lit (.string z) : DataW H) := by
        have := congrArg Prod.fst hx
        simpa [strsData] using this
      have hxl : xs.length = n := by simpa using Lib.mapM_length hm
      have hzl : zs.length = n := by
        have := congrArg List.length hxs
        simp at this
        omega
      apply List.ext_getElem?
      intro i
      by_cases hi : i < n
      · obtain ⟨b, hb, hf⟩ := Lib.mapM_at hm i i (by simp [hi])
        obtain ⟨z, hc, rfl, _⟩ := DataW.trod_string he hf
        have h1 : cs[i]? = some (.string z) := by
          have := congrArg (·[0]?) hc
          simpa [List.getElem?_take, List.getElem?_drop] using this
        have h2 : (xs.map (·.1))[i]? = some (DataW.lit (.string z.data.toList) : DataW H) := by simp [hb]
        rw [hxs] at h2
        simp only [List.getElem?_map, Option.map_eq_some_iff, DataW.lit.injEq, Lit.string.injEq] at h2
        obtain ⟨z', hz', e'⟩ := h2
        rw [h1, List.getElem?_map, hz', e']
        rfl
      · rw [List.getElem?_eq_none (by omega), List.getElem?_eq_none (by simp; omega)]
    · cases h
theorem strs_of_head {P : Program} {W : World} {name : String} {zs : List (List UInt8)} {rest : List (String × DataW Unit)} {g : Nat} {t e : TypeId} {n : Nat}
    (hg : P.globalNamed name = some g) (hty : (P.globals[g]?).map (·.type) = some t) (ht : P.underlying t = some (.array n e)) (he : P.underlying e = some .string) (hce : P.cellsOf e = 1) (hct : P.cellsOf t = n)
    (h : laidMet P ((name, strsData zs) :: rest) W) : StrsIs P W name zs := by
  obtain ⟨ps, ⟨g', t', cs, fuel, p, q, hg', ht', hvar, hd, _, _⟩, _⟩ := h
  obtain rfl := Option.some.inj (hg.symm.trans hg')
  obtain rfl := Option.some.inj (hty.symm.trans ht')
  unfold StrsIs
  rw [hvar, ← cells_of_strs ht he hce hct hd]
def keptL : List (List UInt8) := [[99, 108, 111, 99, 107], [105, 110, 116], [99, 104, 97, 110], [97, 117, 116, 111], [108, 111, 99], [101, 100, 103, 101], [105, 110], [105, 110, 118], [119, 104, 101, 110], [115, 121, 110, 99], [100, 111], [117, 114, 103, 101, 110, 116], [99, 111, 109, 109, 105, 116, 116, 101, 100], [116, 114, 117, 101], [114, 101, 97, 99, 104], [110, 101, 118, 101, 114]]
/-- The kept words lie in their variable. -/
def Kept (W : World) : Prop := (∀ i (h : i < 16), W.cell? ⟨0, i, none⟩ = some (.string ⟨(keptL[i]'h).toArray⟩)) ∧ 0 < W.heap.size
theorem kept_later {W w : World} (h : Kept W) (hb : Below W.heap.size W w) : Kept w := ⟨fun i hi => (hb.cell (p := ⟨0, i, none⟩) h.2).trans (h.1 i hi), Nat.lt_of_lt_of_le h.2 hb.size⟩
theorem gKept : Tryd.prog.globalNamed "gnomon/lex.kept" = some 0 := by kernel_rfl
theorem tKept : (Tryd.prog.globals[0]?).map (·.type) = some 44 := by kernel_rfl
theorem cKept : Tryd.prog.cellsOf 44 = 16 := by kernel_rfl
theorem cString : Tryd.prog.cellsOf 9 = 1 := by kernel_rfl
theorem kept_of {W : World} {rest : List (String × DataW Unit)} (h : laidMet Tryd.prog (("gnomon/lex.kept", strsData keptL) :: rest) W) : Kept W := by
  have hs := strs_of_head gKept tKept Tryd.underlying44 Tryd.underlying9 cString cKept h
  have hc : ∀ i (h : i < 16), W.cell? ⟨0, i, none⟩ = some (.string ⟨(keptL[i]'h).toArray⟩) := fun i hi => by
    have := World.var?_cell gKept hs i
    rw [this, List.getElem?_toArray, List.getElem?_map, List.getElem?_eq_getElem (show i < keptL.length from hi)]
    rfl
  exact ⟨hc, World.block_lt_of_cell? W _ (hc 0 (by omega))⟩
def keptA : Array Value := #[.string ⟨#[99, 108, 111, 99, 107]⟩, .string ⟨#[105, 110, 116]⟩, .string ⟨#[99, 104, 97, 110]⟩, .string ⟨#[97, 117, 116, 111]⟩, .string ⟨#[108, 111, 99]⟩, .string ⟨#[101, 100, 103, 101]⟩, .string ⟨#[105, 110]⟩, .string ⟨#[105, 110, 118]⟩, .string ⟨#[119, 104, 101, 110]⟩, .string ⟨#[115, 121, 110, 99]⟩, .string ⟨#[100, 111]⟩, .string ⟨#[117, 114, 103, 101, 110, 116]⟩, .string ⟨#[99, 111, 109, 109, 105, 116, 116, 101, 100]⟩, .string ⟨#[116, 114, 117, 101]⟩, .string ⟨#[114, 101, 97, 99, 104]⟩, .string ⟨#[110, 101, 118, 101, 114]⟩]
theorem kept_at (i : Nat) (h : i < 16) : keptA[i]? = some (.string ⟨(keptL[i]'h).toArray⟩) := by
  have e : keptA = (keptL.map fun z => Value.string ⟨z.toArray⟩).toArray := rfl
  rw [e, List.getElem?_toArray, List.getElem?_map, List.getElem?_eq_getElem (show i < keptL.length from h)]
  rfl
theorem run_index_row (w : World) (k : Nat) (A : Array Value) (b : ByteArray) (hk : k < 16) (ha : A[k]? = some (.string b)) :
    (Instr.index 44 (.agg A) (.int .i64 (k : Int))).run Tryd.prog w = .ok (.string b) w := by
  simp [Instr.index, run_underlying Tryd.underlying44, asIntOf, part, go_sem, ha]
  intro h
  omega
theorem kept_yes (l : List UInt8) (k : Nat) (h : k < 16) (e : keptL[k]'h = l) : keptL.contains l = true := by
  rw [List.contains_iff_mem, ← e]
  exact List.getElem_mem _
theorem kept_no (l : List UInt8) (e : ∀ j (h : j < 16), j < 16 → ¬ keptL[j]'h = l) : keptL.contains l = false := by
  cases q : keptL.contains l
  · rfl
  · rw [List.contains_iff_mem] at q
    obtain ⟨j, hj, g⟩ := List.getElem_of_mem q
    exact absurd g (e j hj hj)
theorem arr_same (l : List UInt8) (s : ByteArray) : ((⟨l.toArray⟩ : ByteArray).toList == s.toList) = true ↔ l = s.data.toList := by
  rw [ByteArray.toList_eq, ByteArray.toList_eq]
  simp
set_option maxRecDepth 100000 in
theorem isKept_any (s : ByteArray) (w : World) (hk : Kept w) (hs : s.size ≤ 140737488355328) : Calls Tryd.prog 13 #[.string s] w fun e w' => e = .returned (.bool (keptL.contains s.data.toList)) ∧ w' = w := by
  have q0 : w.cell? ⟨0, 0, none⟩ = some (.string ⟨#[99, 108, 111, 99, 107]⟩) := hk.1 0 (by omega)
  have q1 : w.cell? ⟨0, 1, none⟩ = some (.string ⟨#[105, 110, 116]⟩) := hk.1 1 (by omega)
  have q2 : w.cell? ⟨0, 2, none⟩ = some (.string ⟨#[99, 104, 97, 110]⟩) := hk.1 2 (by omega)
  have q3 : w.cell? ⟨0, 3, none⟩ = some (.string ⟨#[97, 117, 116, 111]⟩) := hk.1 3 (by omega)
  have q4 : w.cell? ⟨0, 4, none⟩ = some (.string ⟨#[108, 111, 99]⟩) := hk.1 4 (by omega)
  have q5 : w.cell? ⟨0, 5, none⟩ = some (.string ⟨#[101, 100, 103, 101]⟩) := hk.1 5 (by omega)
  have q6 : w.cell? ⟨0, 6, none⟩ = some (.string ⟨#[105, 110]⟩) := hk.1 6 (by omega)
  have q7 : w.cell? ⟨0, 7, none⟩ = some (.string ⟨#[105, 110, 118]⟩) := hk.1 7 (by omega)
  have q8 : w.cell? ⟨0, 8, none⟩ = some (.string ⟨#[119, 104, 101, 110]⟩) := hk.1 8 (by omega)
  have q9 : w.cell? ⟨0, 9, none⟩ = some (.string ⟨#[115, 121, 110, 99]⟩) := hk.1 9 (by omega)
  have q10 : w.cell? ⟨0, 10, none⟩ = some (.string ⟨#[100, 111]⟩) := hk.1 10 (by omega)
  have q11 : w.cell? ⟨0, 11, none⟩ = some (.string ⟨#[117, 114, 103, 101, 110, 116]⟩) := hk.1 11 (by omega)
  have q12 : w.cell? ⟨0, 12, none⟩ = some (.string ⟨#[99, 111, 109, 109, 105, 116, 116, 101, 100]⟩) := hk.1 12 (by omega)
  have q13 : w.cell? ⟨0, 13, none⟩ = some (.string ⟨#[116, 114, 117, 101]⟩) := hk.1 13 (by omega)
  have q14 : w.cell? ⟨0, 14, none⟩ = some (.string ⟨#[114, 101, 97, 99, 104]⟩) := hk.1 14 (by omega)
  have q15 : w.cell? ⟨0, 15, none⟩ = some (.string ⟨#[110, 101, 118, 101, 114]⟩) := hk.1 15 (by omega)
  have KA := hideR kept_at
  clear hk
  go_enter Tryd.func13, Tryd.ntmps13
  go_wp2_with fail
  clear q0 q1 q2 q3 q4 q5 q6 q7 q8 q9 q10 q11 q12 q13 q14 q15
  have KS : Hid (keptA.size = 16) := rfl
  change Hid (∀ i (h : i < 16), (#[.string ⟨#[99, 108, 111, 99, 107]⟩, .string ⟨#[105, 110, 116]⟩, .string ⟨#[99, 104, 97, 110]⟩, .string ⟨#[97, 117, 116, 111]⟩, .string ⟨#[108, 111, 99]⟩, .string ⟨#[101, 100, 103, 101]⟩, .string ⟨#[105, 110]⟩, .string ⟨#[105, 110, 118]⟩, .string ⟨#[119, 104, 101, 110]⟩, .string ⟨#[115, 121, 110, 99]⟩, .string ⟨#[100, 111]⟩, .string ⟨#[117, 114, 103, 101, 110, 116]⟩, .string ⟨#[99, 111, 109, 109, 105, 116, 116, 101, 100]⟩, .string ⟨#[116, 114, 117, 101]⟩, .string ⟨#[114, 101, 97, 99, 104]⟩, .string ⟨#[110, 101, 118, 101, 114]⟩] : Array Value)[i]? = some (.string ⟨(keptL[i]'h).toArray⟩)) at KA
  change Hid ((#[.string ⟨#[99, 108, 111, 99, 107]⟩, .string ⟨#[105, 110, 116]⟩, .string ⟨#[99, 104, 97, 110]⟩, .string ⟨#[97, 117, 116, 111]⟩, .string ⟨#[108, 111, 99]⟩, .string ⟨#[101, 100, 103, 101]⟩, .string ⟨#[105, 110]⟩, .string ⟨#[105, 110, 118]⟩, .string ⟨#[119, 104, 101, 110]⟩, .string ⟨#[115, 121, 110, 99]⟩, .string ⟨#[100, 111]⟩, .string ⟨#[117, 114, 103, 101, 110, 116]⟩, .string ⟨#[99, 111, 109, 109, 105, 116, 116, 101, 100]⟩, .string ⟨#[116, 114, 117, 101]⟩, .string ⟨#[114, 101, 97, 99, 104]⟩, .string ⟨#[110, 101, 118, 101, 114]⟩] : Array Value).size = 16) at KS
  generalize (#[.string ⟨#[99, 108, 111, 99, 107]⟩, .string ⟨#[105, 110, 116]⟩, .string ⟨#[99, 104, 97, 110]⟩, .string ⟨#[97, 117, 116, 111]⟩, .string ⟨#[108, 111, 99]⟩, .string ⟨#[101, 100, 103, 101]⟩, .string ⟨#[105, 110]⟩, .string ⟨#[105, 110, 118]⟩, .string ⟨#[119, 104, 101, 110]⟩, .string ⟨#[115, 121, 110, 99]⟩, .string ⟨#[100, 111]⟩, .string ⟨#[117, 114, 103, 101, 110, 116]⟩, .string ⟨#[99, 111, 109, 109, 105, 116, 116, 101, 100]⟩, .string ⟨#[116, 114, 117, 101]⟩, .string ⟨#[114, 101, 97, 99, 104]⟩, .string ⟨#[110, 101, 118, 101, 114]⟩] : Array Value) = A at *
  go_loopw [6] (fun i wr => ∃ k : Nat, k ≤ 16 ∧ i = .int .i64 k ∧ wr = w ∧ Hid (∀ j (h : j < 16), j < k → ¬ keptL[j]'h = s.data.toList)) (fun i _ => 16 - (intOf i).toNat)
  case atStart => exact ⟨0, by omega, rfl, rfl, fun j _ h => by omega⟩
  case round =>
    obtain ⟨k, hk, rfl, rfl, E⟩ := hrel
    by_cases ck : k < 16
    · have k0 : (0 : Int) ≤ (k : Int) := by omega
      have k1 : (k : Int) < 16 := by omega
      have RI := run_index_row wr k A _ ck (KA.out k ck)
      clear KA KS
      by_cases q : (((⟨(keptL[k]'ck).toArray⟩ : ByteArray).toList == s.toList) = true)
      · have R := hideR (kept_yes s.data.toList k ck ((arr_same _ _).1 q))
        clear E
        generalize (⟨(keptL[k]'ck).toArray⟩ : ByteArray) = kb at *
        go_wp2_with fail
        go_ret
        exact ⟨by rw [R.out]; rfl, rfl⟩
      · have q' : (((⟨(keptL[k]'ck).toArray⟩ : ByteArray).toList == s.toList) = false) := by simpa using q
        have E2 : Hid (∀ j (h : j < 16), j < k + 1 → ¬ keptL[j]'h = s.data.toList) := fun j hj hjk => by
          by_cases e : j = k
          · subst e
            exact fun h => q ((arr_same _ _).2 h)
          · exact E.out j hj (by omega)
        clear q E
        generalize (⟨(keptL[k]'ck).toArray⟩ : ByteArray) = kb at *
        go_wp2_with fail
        go_roundw
        case rel => exact ⟨k + 1, by omega, by go_num, by first | rfl | trivial, E2⟩
        case measure => simp [intOf]; omega
    · obtain rfl : k = 16 := by omega
      have R := hideR (kept_no s.data.toList E.out)
      clear KA KS E
      go_wp2_with fail
      go_ret
      exact ⟨by rw [R.out]; rfl, rfl⟩
/-- What a name is. -/
def nameL (l : List UInt8) : Bool := !l.isEmpty && decide (l.length ≤ 16) && lttI ((l.head?.map fun c => (c.toNat : Int)).getD 0) && (spanL wrdI l == l.length) && !keptL.contains l
set_option maxRecDepth 100000 in
set_option maxHeartbeats 1000000 in
theorem isName_any (s : ByteArray) (w : World) (hk : Kept w) (hs : s.size ≤ 140737488355328) : Calls Tryd.prog 7 #[.string s] w fun e w' => e = .returned (.bool (nameL s.data.toList)) ∧ w' = w := by
  obtain ⟨R, hR⟩ : ∃ R, R = nameL s.data.toList := ⟨_, rfl⟩
  rw [← hR]
  unfold nameL at hR
  by_cases hp : 0 < s.size
  · have hne := list_ne s hp
    have e0 : s.data.toList.isEmpty = false := by rw [← ByteArray.toList_eq]; exact hne
    have hh : s.data.toList.head? = some s[0] := by rw [head_of s hp]; rfl
    rw [e0, len_of, hh] at hR
    simp only [Bool.not_false, Bool.true_and, Option.map_some, Option.getD_some] at hR
    have i0 : (0 : Int) < (s.size : Int) := by omega
    by_cases g : s.size ≤ 16
    · rw [decide_eq_true g, Bool.true_and] at hR
      have g' : ¬ (16 : Int) < (s.size : Int) := by omega
      have H1 := hideR (fun w => isLetter_any (s[0].toNat : Int) w)
      have H2 := hideR (fun w => span_word s w hs)
      have H3 := hideR (isKept_any s w hk hs)
      clear hh e0 hk
      generalize keptL.contains s.data.toList = kp at *
      have le : spanL wrdI s.data.toList ≤ s.size := by have := span_le wrdI s.data.toList; rw [len_of] at this; exact this
      generalize spanL wrdI s.data.toList = m at *
      cases a : lttI (s[0].toNat : Int)
      · rw [a] at H1 hR
        rw [Bool.false_and, Bool.false_and] at hR
        subst hR
        clear a
        go_enter Tryd.func7, Tryd.ntmps7
        go_wp2_with fail
        refine (H1.out _).mono ?_
        rintro e w1 ⟨rfl, rfl⟩
        go_wp2_with fail
        go_ret
        exact ⟨rfl, rfl⟩
      · rw [a] at H1 hR
        rw [Bool.true_and] at hR
        clear a
        by_cases c : m = s.size
        · subst c
          rw [show (s.size == s.size) = true by simp, Bool.true_and] at hR
          have HR := hideR hR
          clear hR
          go_enter Tryd.func7, Tryd.ntmps7
          go_wp2_with fail
          refine (H1.out _).mono ?_
          rintro e w1 ⟨rfl, rfl⟩
          go_wp2_with fail
          refine (H2.out _).mono ?_
          rintro e w1 ⟨rfl, rfl⟩
          go_wp2_with fail
          refine H3.out.mono ?_
          rintro e w1 ⟨rfl, rfl⟩
          go_wp2_with fail
          go_ret
          exact ⟨by rw [HR.out]; rfl, rfl⟩
        · have c1 : (m == s.size) = false := by simpa using c
          have c2 : ((m : Int) == (s.size : Int)) = false := by simp; omega
          rw [c1, Bool.false_and] at hR
          subst hR
          clear c1 c
          go_enter Tryd.func7, Tryd.ntmps7
          go_wp2_with fail
          refine (H1.out _).mono ?_
          rintro e w1 ⟨rfl, rfl⟩
          go_wp2_with fail
          refine (H2.out _).mono ?_
          rintro e w1 ⟨rfl, rfl⟩
          go_wp2_with fail
          go_ret
          exact ⟨rfl, rfl⟩
    · rw [decide_eq_false g] at hR
      simp only [Bool.false_and] at hR
      subst hR
      have g' : (16 : Int) < (s.size : Int) := by omega
      clear hk hh e0
      go_enter Tryd.func7, Tryd.ntmps7
      go_wp2_with fail
      go_ret
      exact ⟨rfl, rfl⟩
  · have e : s = ⟨#[]⟩ := by
      have : s.size = 0 := by omega
      apply ByteArray.ext
      exact Array.eq_empty_of_size_eq_zero this
    subst e
    have e2 : R = false := hR
    subst e2
    clear hR hk
    go_enter Tryd.func7, Tryd.ntmps7
    go_wp2_with fail
    go_ret
    exact ⟨rfl, rfl⟩
end Go.Proofs.YtdofnjlnleofjaaDoor
