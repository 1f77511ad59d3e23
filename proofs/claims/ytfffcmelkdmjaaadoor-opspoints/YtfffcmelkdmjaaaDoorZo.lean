/-
  What the statements of ops ask of valuations in twelfths: does one keep a bound, is it in a zone.
-/
import Derived.Test.YtfffcmelkdmjaaaDoorZc
import Derived.Test.YtfffcmelkdmjaaaDoorZk
import Derived.Test.YtfffcmelkdmjaaaDoorZb
import Derived.Deep.CutBlock
import Derived.Deep.DeepCutAuto
import Derived.Deep.LoopGhost
import Derived.Deep.QuietTactic
import Derived.BigQuiet
import Derived.Test.YtfffcmelkdmjaaaDoorSg2z
namespace Go.Proofs.YtfffcmelkdmjaaaDoor
open Go.RowKit
set_option linter.unusedVariables false
set_option maxRecDepth 100000
theorem keeps_any (a b x : Int) (w : World) (hx : rightB x = true) (a0 : -100000000 ≤ a) (a1 : a ≤ 100000000) (b0 : -100000000 ≤ b) (b1 : b ≤ 100000000) :
    Calls Tryd.prog 109 #[.int .i64 a, .int .i64 b, .int .i32 x] w fun e w' => e = .returned (.bool (holdsB x (a - b) 12)) ∧ w' = w := by
  have HV := hideD (value_any x w)
  by_cases hf : finB x = true
  · have hv : -268435456 ≤ valV x ∧ valV x ≤ 268435456 := by
      unfold valV; rw [if_pos hf]
      have := hf; simp only [finB, decide_eq_true_eq] at this; omega
    have hi : ¬ x = 2147483647 := by have := hf; simp only [finB, decide_eq_true_eq] at this; omega
    have HE : Hid (holdsB x (a - b) 12 = if valR x then decide (a - b ≤ valV x * 12) else decide (a - b < valV x * 12)) := by
      show _ = _
      unfold holdsB
      rw [decide_eq_false hi, hf]
      simp
    rw [HE.out]
    rw [hf] at HV
    generalize valV x = v at *
    generalize valR x = r at *
    have w1 : wrap64 (a - b) = a - b := by unfold wrap64; omega
    have w2 : wrap64 (12 * v) = 12 * v := by unfold wrap64; omega
    have w3 : wrap64 (a - b - 12 * v) = a - b - 12 * v := by unfold wrap64; omega
    clear HE hi hf hx
    by_cases c1 : a - b - 12 * v < 0
    · have E : (if r then decide (a - b ≤ v * 12) else decide (a - b < v * 12)) = true := by cases r <;> simp <;> omega
      rw [E]
      clear E
      go_enter Tryd.func109, Tryd.ntmps109
      go_wp2_with fail
      refine HV.out.mono ?_
      rintro e w' ⟨rfl, rfl⟩
      go_wp2_with fail
      go_ret
      exact ⟨rfl, rfl⟩
    · by_cases c2 : a - b - 12 * v = 0
      · have E : (if r then decide (a - b ≤ v * 12) else decide (a - b < v * 12)) = r := by cases r <;> simp <;> omega
        rw [E]
        have c2' : ((a - b - 12 * v) == 0) = true := by simp [c2]
        clear E
        go_enter Tryd.func109, Tryd.ntmps109
        go_wp2_with fail
        refine HV.out.mono ?_
        rintro e w' ⟨rfl, rfl⟩
        go_wp2_with fail
        go_ret
        exact ⟨rfl, rfl⟩
      · have E : (if r then decide (a - b ≤ v * 12) else decide (a - b < v * 12)) = false := by cases r <;> simp <;> omega
        rw [E]
        have HC1 := hideD c1
        clear E
        go_enter Tryd.func109, Tryd.ntmps109
        go_wp2_with fail
        refine HV.out.mono ?_
        rintro e w' ⟨rfl, rfl⟩
        go_wp2_with fail
        go_ret
        refine ⟨?_, rfl⟩
        show Ending.returned (.bool (decide _)) = _
        rw [decide_eq_false (p := a - b - 12 * v < 0) (by have := HC1.out; omega)]
  · have hi : x = 2147483647 := by simp only [rightB, finB, decide_eq_true_eq] at hx hf; omega
    have E : holdsB x (a - b) 12 = true := by unfold holdsB; rw [decide_eq_true hi]; rfl
    rw [E]
    have hf' : finB x = false := by simpa using hf
    rw [hf'] at HV
    clear hf hf' hi E hx
    generalize valV x = v at *
    generalize valR x = r at *
    go_enter Tryd.func109, Tryd.ntmps109
    go_wp2_with fail
    refine HV.out.mono ?_
    rintro e w' ⟨rfl, rfl⟩
    go_wp2_with fail
    go_ret
    exact ⟨rfl, rfl⟩
theorem add_at (cb off j : Nat) : (⟨cb, off, none⟩ : Addr).add j = ⟨cb, off + j, none⟩ := by
  unfold Addr.add
  split
  · simp_all
  · simp_all
theorem own_one (w : World) (x : Value) (e : TypeId) : (w.alloc (.cells #[x] e)).ownsRow w.heap.size e 1 (.slice (some ⟨w.heap.size, 0, none⟩) 1 1) 1 [x] :=
  ⟨by simp, .inr ⟨w.heap.size, 1, #[x], rfl, Nat.le_refl _, heap_alloc_new w _, Nat.le_refl _, by unfold maxLen; omega, by simp, by simp⟩⟩
/-- A valuation, 0 ahead. -/
def ptV (l : List Int) (j : Nat) : Int := (0 :: l).getD j 0
theorem info_i64' : (Tryd.prog.info? 2).map (fun i => (i.zero, i.size, i.bytes)) = some (some (.int .i64 0), 1, 8) := by kernel_rfl
theorem emptyZ_any (b n : Nat) (c : Row) (w : World) (hn : n ≤ 8) (hz : ZoneAt w b n c) :
    Calls Tryd.prog 52 #[.pointer (some ⟨b, 0, none⟩)] w fun e w' => e = .returned (.bool (decide (c 0 < 1))) ∧ Below w.heap.size w w' := by
  have H := hideD (hollow_any b n c w hn hz)
  generalize decide (c 0 < 1) = q at *
  clear hz
  go_enter Tryd.func52, Tryd.ntmps52
  go_wp2_with fail
  refine H.out.mono ?_
  rintro e w' ⟨rfl, hb⟩
  go_wp2_with fail
  go_ret
  exact ⟨rfl, hb⟩
theorem ptV_bd {l : List Int} {B : Int} (hB : 0 ≤ B) (h : ∀ x ∈ l, 0 ≤ x ∧ x ≤ B) (j : Nat) : 0 ≤ ptV l j ∧ ptV l j ≤ B := by
  unfold ptV
  match j with
  | 0 => simp; exact hB
  | j + 1 =>
    by_cases hj : j < l.length
    · have e : (0 :: l).getD (j + 1) 0 = l[j] := by simp [List.getD, hj]
      rw [e]; exact h _ (List.getElem_mem hj)
    · have e : (0 :: l).getD (j + 1) 0 = 0 := by simp [List.getD, hj]
      rw [e]; exact ⟨by omega, hB⟩
/-- An own row with one number more ahead of what is handed over. -/
def RowV (w : World) (v : Value) (base : Nat) (l : List Int) : Prop := ∃ g cap, v = .slice (some ⟨g, 0, none⟩) l.length cap ∧ base ≤ g ∧ (∀ j, j < l.length → w.cell? ⟨g, j, none⟩ = some (.int .i64 (l.getD j 0))) ∧ ∀ a, w.frozen? ⟨g, a, none⟩ = false
set_option maxHeartbeats 4000000 in
theorem in_any (b n m cap : Nat) (ad : Option Addr) (c : Row) (l : List Int) (w : World) (hn : n ≤ 8) (hn1 : 1 ≤ n) (hm : m = (n + 1) * (n + 1)) (zc : ZC n m c) (hz : ZoneAt w b n c) (hl : l.length = n) (hv : IntsAt w (.slice ad n cap) l) (hb : ∀ x ∈ l, 0 ≤ x ∧ x ≤ 10000000) :
    Calls Tryd.prog 43 #[.pointer (some ⟨b, 0, none⟩), .slice ad n cap] w fun e w' => e = .returned (.bool (kB n (listOf c m) (ptV l) 12)) ∧ Below w.heap.size w w' := by
  have HE := hideD (emptyZ_any b n c w hn hz)
  have HD : Hid (∀ w', Below w.heap.size w w' → Calls Tryd.prog 90 #[.pointer (some ⟨b, 0, none⟩)] w' fun e w'' => e = .returned (.int .i64 n) ∧ w'' = w') := fun w' h => zdim_any b n c w' (hz.past h)
  have HC : Hid (∀ w' i j, Below w.heap.size w w' → i ≤ n → j ≤ n → Calls Tryd.prog 51 #[.pointer (some ⟨b, 0, none⟩), .int .i64 i, .int .i64 j] w' fun e w'' => e = .returned (.tuple #[.int .i32 (c (i * (n + 1) + j)), .int .i64 0]) ∧ Below w'.heap.size w' w'') := fun w' i j h hi hj => cell_in b n i j c w' hn (hz.past h) hi hj
  have BD := hideD (ptV_bd (by omega) hb)
  have R := hideD (zc_right hm zc)
  have HK : Hid (∀ w' i j, Calls Tryd.prog 109 #[.int .i64 (ptV l i), .int .i64 (ptV l j), .int .i32 (c (i * (n + 1) + j))] w' fun e w'' => e = .returned (.bool (holdsB (c (i * (n + 1) + j)) (ptV l i - ptV l j) 12)) ∧ w'' = w') := fun w' i j => keeps_any _ _ _ w' (R.out _) (by have := BD.out i; omega) (by have := BD.out i; omega) (by have := BD.out j; omega) (by have := BD.out j; omega)
  have KB : Hid (kB n (listOf c m) (ptV l) 12 = true ↔ ∀ i j, i ≤ n → j ≤ n → holdsB (c (i * (n + 1) + j)) (ptV l i - ptV l j) 12 = true) := by
    show _ ↔ _
    rw [kB_iff]
    constructor
    · intro h i j hi hj
      have := h i j hi hj
      rw [listOf_get _ _ _ (by rw [hm]; exact pos_lt hi hj)] at this
      exact this
    · intro h i j hi hj
      rw [listOf_get _ _ _ (by rw [hm]; exact pos_lt hi hj)]
      exact h i j hi hj
  by_cases c0 : c 0 < 1
  · have e0 : kB n (listOf c m) (ptV l) 12 = false := by
      rw [Bool.eq_false_iff]
      intro h
      have h0 := KB.out.1 h 0 0 (by omega) (by omega)
      rw [Nat.zero_mul, Nat.zero_add] at h0
      rcases zc with rfl | ⟨p, hp⟩
      · have : ptV l 0 - ptV l 0 = 0 := by omega
        rw [this] at h0
        exact absurd h0 (by decide)
      · have := hp.zero hm; omega
    rw [e0]
    rw [decide_eq_true c0] at HE
    clear e0 KB HK R BD HC HD zc hz hv hb hm
    go_enter Tryd.func43, Tryd.ntmps43
    go_wp2_with fail
    refine HE.out.mono ?_
    rintro e w' ⟨rfl, hb⟩
    go_wp2_with fail
    go_ret
    exact ⟨rfl, hb⟩
  · rw [decide_eq_false c0] at HE
    obtain ⟨i0, hi0, hz0, hz1, hz2⟩ := info_parts info_i64'
    obtain ⟨cb, off, rfl⟩ : ∃ cb off, ad = some ⟨cb, off, none⟩ := by
      rcases hv with ⟨a, c, e, e'⟩ | ⟨cb, off, cap', e, _⟩
      · subst e'; simp at hl; omega
      · injection e with e1; exact ⟨cb, off, e1⟩
    have HN : Hid (∀ w', Below w.heap.size w w' → ∀ j u, (l.map (Value.int .i64))[j]? = some u → w'.cell? ((⟨cb, off, none⟩ : Addr).add j) = some u) := fun w' hb' j u hj => by
      have h := hv.past hb'
      rw [List.getElem?_map] at hj
      by_cases hjl : j < l.length
      · rw [List.getElem?_eq_getElem hjl] at hj
        injection hj with hj
        rcases h with ⟨a, c, e, e'⟩ | ⟨cb', off', cap', e, hcell⟩
        · subst e'; simp at hjl
        · injection e with e1 e2 e3
          injection e1 with e1
          injection e1 with f1 f2
          subst f1 f2
          have : w'.cell? ((⟨cb, off, none⟩ : Addr).add j) = some (.int .i64 (l.getD j 0)) := by rw [add_at]; exact hcell j hjl
          rw [show l.getD j 0 = l[j] by simp [List.getD, hjl]] at this
          rw [← hj]
          exact this
      · rw [List.getElem?_eq_none (by omega)] at hj; cases hj
    have LL := hideD hl
    clear hz zc hv hb c0 hm
    go_enter Tryd.func43, Tryd.ntmps43
    go_wp2_with fail
    refine HE.out.mono ?_
    rintro e w1 ⟨rfl, hb1⟩
    have B1 := hideD hb1
    have HD1 := hideD (HD.out w1 hb1)
    clear HE hb1 HD
    go_wp2_with fail
    refine HD1.out.mono ?_
    rintro e w2 ⟨rfl, hw2⟩
    subst hw2
    clear HD1
    go_upto_region 3 with (fail)
    have O0 : Hid ((w2.alloc (.cells #[.int .i64 0] 2)).ownsRow w2.heap.size 2 1 (.slice (some ⟨w2.heap.size, 0, none⟩) 1 1) 1 [.int .i64 0]) := own_one _ _ _
    have Ba := hideD (beyondD B1.out (below_one w2 (.cells #[.int .i64 0] 2)))
    have Bz : Hid (Below w2.heap.size w2 (w2.alloc (.cells #[.int .i64 0] 2))) := below_one _ _
    have HL : Hid (l.length = n ∧ n ≤ 8) := ⟨LL.out, hn⟩
    have Bs : Hid (w2.heap.size ≤ (w2.alloc (.cells #[.int .i64 0] 2)).heap.size) := by show _ ≤ _; simp
    have HNa := hideD (HN.out _ Ba.out)
    go_cut [5] (fun v wx => RowV wx v w2.heap.size (0 :: l) ∧ Hid (Below w2.heap.size w2 wx))
    case first =>
      clear HC HK KB R BD HN B1 hn1
      go_wp2_with (at_builtin; refine wpList_append_own _ rfl _ _ 65 rfl w2.heap.size 2 i0 (.int .i64 0) 1 8 Tryd.underlying65 hi0 hz0 hz1 hz2 rfl (by decide) (.slice (some ⟨w2.heap.size, 0, none⟩) 1 1) 1 [.int .i64 0] rfl O0.out ⟨cb, off, none⟩ n cap (l.map (Value.int .i64)) rfl (by have := HL.out; simp; omega) HNa.out (fun u hu => by obtain ⟨y, _, rfl⟩ := List.mem_map.1 hu; rfl) (by have := HL.out; unfold maxLen; omega) (by have := HL.out; omega) Bs.out ?_; intro v' w3 hown hgrow hnil')
      have hb3 : Below w2.heap.size w2 w3 := Bz.out.grown hgrow (by simp) (fun k hk => by simp [Value.ownBlock] at hk; omega)
      have e1 : 1 + n = (0 :: l).length := by have := HL.out; simp; omega
      rw [e1] at hown
      have hown' : w3.ownsRow w2.heap.size 2 1 v' (0 :: l).length (((0 :: l) : List Int).map (Value.int .i64)) := hown
      obtain ⟨g, cp, rfl⟩ := own_form hown'
      have lt := hown'.lt g rfl
      have HR : RowV w3 (.slice (some ⟨g, 0, none⟩) (0 :: l).length cp) w2.heap.size (0 :: l) := ⟨g, cp, rfl, lt.1, fun j hj => by
        rw [hown'.cellAt j (by omega), List.getElem?_map, List.getElem?_eq_getElem hj]
        simp [List.getD, List.getElem?_eq_getElem hj], fun a => hown'.frozenAt a⟩
      go_meet
      exact ⟨HR, hb3⟩
    case rest =>
      obtain ⟨⟨g, cp, rfl, gl, hcell, hfz⟩, hB⟩ := hcut
      have eL : ((0 :: l) : List Int).length = n + 1 := by have := HL.out; simp; omega
      rw [eL] at hcell ⊢
      have V3 : Hid (∀ j, j ≤ n → wc.cell? ⟨g, j, none⟩ = some (.int .i64 (ptV l j))) := fun j hj => hcell j (by omega)
      have B3 := hideD (beyondD B1.out hB.out)
      clear hcell hfz eL hB O0 Ba Bz Bs HNa HN HL LL B1 gl
      obtain ⟨w3, h3⟩ : ∃ w3, w3 = wc := ⟨_, rfl⟩
      subst h3
      have n9 : ((n + 1 : Nat) : Int) = (n : Int) + 1 := by omega
      go_wp2_with fail
      go_loopg [6] (n + 1) (fun g' s wr => ∃ (i : Nat), i ≤ n + 1 ∧ g' = n + 1 - i ∧ s = .int .i64 (i : Int) ∧ Hid (∀ a b, a < i → b ≤ n → holdsB (c (a * (n + 1) + b)) (ptV l a - ptV l b) 12 = true) ∧ Hid (Below w3.heap.size w3 wr))
      case atStart => exact ⟨0, by omega, rfl, rfl, fun a b h => by omega, Below.refl _ _⟩
      case round =>
        obtain ⟨i, hi, rfl, rfl, hin, hBo⟩ := hrel
        obtain ⟨wo, ho⟩ : ∃ wo, wo = wr := ⟨_, rfl⟩
        subst ho
        by_cases ci : i ≤ n
        · have ci1 : (i : Int) < (n : Int) + 1 := by omega
          go_wp2_with fail
          go_loopg [7] (n + 1) (fun g' s wr => ∃ (j : Nat), j ≤ n + 1 ∧ g' = n + 1 - j ∧ s = .int .i64 (j : Int) ∧ Hid (∀ b, b < j → holdsB (c (i * (n + 1) + b)) (ptV l i - ptV l b) 12 = true) ∧ Hid (Below w3.heap.size w3 wr))
          case atStart => exact ⟨0, by omega, rfl, rfl, fun b h => by omega, hBo⟩
          case round =>
            obtain ⟨j, hj, rfl, rfl, hjn, hB⟩ := hrel
            clear hBo
            by_cases cj : j ≤ n
            · have cj1 : (j : Int) < (n : Int) + 1 := by omega
              have C4 := hideD (HC.out wr i j (beyondD B3.out hB.out) ci cj)
              go_wp2_with fail
              refine C4.out.mono ?_
              rintro e w4 ⟨rfl, hb4⟩
              have B4 : Hid (Below w3.heap.size w3 w4) := beyondD hB.out hb4
              have v1 := kc _ _ B4.out (V3.out i ci)
              have v2 := kc _ _ B4.out (V3.out j cj)
              have i0' : (0 : Int) ≤ (i : Int) := by omega
              have j0' : (0 : Int) ≤ (j : Int) := by omega
              have HKij := hideD (fun w' => HK.out w' i j)
              clear C4 hb4 hB
              by_cases ok : holdsB (c (i * (n + 1) + j)) (ptV l i - ptV l j) 12 = true
              · rw [ok] at HKij
                have hj2 : Hid (∀ b, b < j + 1 → holdsB (c (i * (n + 1) + b)) (ptV l i - ptV l b) 12 = true) := fun b hb => by
                  by_cases e : b = j
                  · subst e; exact ok
                  · exact hjn.out b (by omega)
                clear ok hjn hin KB BD R HC HK
                go_upto_region 11 with (fail)
                go_quiet ((go_at_call 109; exact Calls.quiet_of_same (HKij.out _)))
                clear v1 v2 HKij
                go_wp2_with fail
                go_roundg (n + 1 - (j + 1))
                case measure => omega
                case rel => exact ⟨j + 1, by omega, rfl, by go_num, hj2, below_drewN B4.out _⟩
              · have ok' : holdsB (c (i * (n + 1) + j)) (ptV l i - ptV l j) 12 = false := by simpa using ok
                rw [ok'] at HKij
                have e0 : Hid (kB n (listOf c m) (ptV l) 12 = false) := by
                  show _ = _
                  rw [Bool.eq_false_iff]
                  intro h
                  exact ok (KB.out.1 h i j ci cj)
                have B5 : Hid (∀ k, Below w.heap.size w (w4.drewN k)) := fun k => below_drewN (beyondD B3.out B4.out) k
                clear ok ok' hjn hin KB BD R HC HK B3 B4
                go_upto_region 11 with (fail)
                go_quiet ((go_at_call 109; exact Calls.quiet_of_same (HKij.out _)))
                clear v1 v2 HKij
                go_wp2_with fail
                go_ret
                exact ⟨by rw [e0.out]; rfl, B5.out _⟩
            · have cj1 : ¬ ((j : Int) < (n : Int) + 1) := by omega
              have hi2 : Hid (∀ a b, a < i + 1 → b ≤ n → holdsB (c (a * (n + 1) + b)) (ptV l a - ptV l b) 12 = true) := fun a b ha hb => by
                by_cases e : a = i
                · subst e; exact hjn.out b (by omega)
                · exact hin.out a b (by omega) hb
              clear hjn hin KB BD R HC HK
              go_wp2_with fail
              go_roundg (n + 1 - (i + 1))
              case measure => omega
              case rel => exact ⟨i + 1, by omega, rfl, by go_num, hi2, hB⟩
        · have ci1 : ¬ ((i : Int) < (n : Int) + 1) := by omega
          have e0 : Hid (kB n (listOf c m) (ptV l) 12 = true) := KB.out.2 fun a b ha hb => hin.out a b (by omega) hb
          have B5 : Hid (Below w.heap.size w wo) := beyondD B3.out hBo.out
          clear hin KB BD R HC HK hBo
          go_wp2_with fail
          go_ret
          exact ⟨by rw [e0.out]; rfl, B5.out⟩
end Go.Proofs.YtfffcmelkdmjaaaDoor

/-
  The valuations that the statements of ops make: of so many clocks, and later ones.
-/
namespace Go.Proofs.YtfffcmelkdmjaaaDoor
open Go.RowKit
set_option linter.unusedVariables false
set_option maxRecDepth 100000
/-- Numbers of 16 bits in memory, behind a slice. -/
def U16At (w : World) (v : Value) (l : List Int) : Prop := (∃ ad c, v = .slice ad 0 c ∧ l = []) ∨ (∃ b off cap, v = .slice (some ⟨b, off, none⟩) l.length cap ∧ ∀ j, j < l.length → w.cell? ⟨b, off + j, none⟩ = some (.int .u16 (l.getD j 0)))
theorem U16At.past {w w' : World} {v : Value} {l : List Int} (h : U16At w v l) (hb : Below w.heap.size w w') : U16At w' v l := by
  rcases h with ⟨ad, c, h1, h2⟩ | ⟨b, off, cap, h1, h2⟩
  · exact .inl ⟨ad, c, h1, h2⟩
  · exact .inr ⟨b, off, cap, h1, fun j hj => kc _ _ hb (h2 j hj)⟩
theorem U16At.form {w : World} {v : Value} {l : List Int} (h : U16At w v l) : ∃ ad cap, v = .slice ad l.length cap := by
  rcases h with ⟨ad, c, rfl, rfl⟩ | ⟨b, off, cap, rfl, _⟩
  · exact ⟨ad, c, rfl⟩
  · exact ⟨_, cap, rfl⟩
theorem U16At.at {w : World} {ad : Option Addr} {q cap : Nat} {l : List Int} (h : U16At w (.slice ad q cap) l) (hl : l.length = q) (k : Nat) (hk : k < q) : ∃ cb off, ad = some ⟨cb, off, none⟩ ∧ w.cell? ⟨cb, off + k, none⟩ = some (.int .u16 (l.getD k 0)) := by
  rcases h with ⟨ad', c', e, e'⟩ | ⟨cb, off, cap', e, hcell⟩
  · subst e'; simp at hl; omega
  · injection e with e1 e2 e3
    exact ⟨cb, off, e1, hcell k (by omega)⟩
theorem IntsAt.atP {w : World} {ad : Option Addr} {q cap : Nat} {l : List Int} (h : IntsAt w (.slice ad q cap) l) (hl : l.length = q) (k : Nat) (hk : k < q) : ∃ cb off, ad = some ⟨cb, off, none⟩ ∧ w.cell? ⟨cb, off + k, none⟩ = some (.int .i64 (l.getD k 0)) := by
  rcases h with ⟨ad', c', e, e'⟩ | ⟨cb, off, cap', e, hcell⟩
  · subst e'; simp at hl; omega
  · injection e with e1 e2 e3
    exact ⟨cb, off, e1, hcell k (by omega)⟩
/-- An own row of numbers that a call hands out. -/
def OwnV (w : World) (v : Value) (base : Nat) (l : List Int) : Prop := w.ownsRow base 2 1 v l.length (l.map (Value.int .i64))
theorem OwnV.ints {w : World} {v : Value} {base : Nat} {l : List Int} (h : OwnV w v base l) : ∃ ad cap, v = .slice ad l.length cap ∧ IntsAt w v l := by
  rcases h.2 with ⟨rfl, h0⟩ | ⟨g, cap, cur, rfl, hg, h2, h3, h4, h5, h6⟩
  · have e := List.length_eq_zero_iff.1 h0
    subst e
    exact ⟨none, 0, rfl, .inl ⟨_, _, rfl, rfl⟩⟩
  · refine ⟨_, _, rfl, .inr ⟨g, 0, cap, rfl, fun j hj => ?_⟩⟩
    have := World.ownsRow.cellAt h j (by omega)
    rw [List.getElem?_map, List.getElem?_eq_getElem hj] at this
    rw [Nat.zero_add, this]
    simp [List.getD, List.getElem?_eq_getElem hj]
def valL (l : List Int) : Nat → List Int
  | 0 => []
  | K + 1 => valL l K ++ [l.getD K 0]
theorem valL_len (l : List Int) : ∀ K, (valL l K).length = K
  | 0 => rfl
  | K + 1 => by simp [valL, valL_len l K]
def addL (l : List Int) (d : Int) : Nat → List Int
  | 0 => []
  | K + 1 => addL l d K ++ [l.getD K 0 + d]
theorem addL_len (l : List Int) (d : Int) : ∀ K, (addL l d K).length = K
  | 0 => rfl
  | K + 1 => by simp [addL, addL_len l d K]
set_option maxHeartbeats 4000000 in
theorem values_any (n q cap : Nat) (ad : Option Addr) (l : List Int) (w : World) (hn : n ≤ 8) (hl : l.length = q) (hv : U16At w (.slice ad q cap) l) (hb : ∀ j, 0 ≤ l.getD j 0 ∧ l.getD j 0 ≤ 65535) :
    Calls Tryd.prog 42 #[.slice ad q cap, .int .i64 n] w fun e w' => (∃ v, e = .returned v ∧ Hid (OwnV w' v w.heap.size (valL l n))) ∧ Below w.heap.size w w' := by
  have HC : Hid (∀ wr, Below w.heap.size w wr → ∀ k, k < q → ∃ cb off, ad = some ⟨cb, off, none⟩ ∧ wr.cell? ⟨cb, off + k, none⟩ = some (.int .u16 (l.getD k 0))) := fun wr hb k hk => (hv.past hb).at hl k hk
  have HO : Hid (∀ k, q ≤ k → l.getD k 0 = 0) := fun k hk => by simp [List.getD, List.getElem?_eq_none (by omega : l.length ≤ k)]
  have BD := hideD hb
  obtain ⟨i0, hi0, hz0, hz1, hz2⟩ := info_parts info_i64'
  clear hv hl hb
  go_enter Tryd.func42, Tryd.ntmps42
  go_wp2_with fail
  go_loopg [5, 6] n (fun g u s wr => ∃ (K : Nat), K ≤ n ∧ g = n - K ∧ s = .int .i64 (K : Int) ∧ Hid (OwnV wr u w.heap.size (valL l K)) ∧ Hid (Below w.heap.size w wr))
  case atStart => exact ⟨0, by omega, rfl, rfl, World.ownsRow_nil _ _ _ _, Below.refl _ _⟩
  case round =>
    obtain ⟨K, hK, rfl, rfl, hown, hB⟩ := hrel
    by_cases ck : K < n
    · have k0 : (0 : Int) ≤ (K : Int) := by omega
      have k1 : (K : Int) < (n : Int) := by omega
      have hsz := hideD hB.out.size
      go_upto_block 1 with (fail)
      go_cut [5] (fun v wx => Hid (OwnV wx v w.heap.size (valL l (K + 1))) ∧ Hid (Below w.heap.size w wx))
      case first =>
        have HLN : Hid ((valL l K).length = K ∧ n ≤ 8 ∧ K < n) := ⟨valL_len _ _, hn, ck⟩
        have NX : Hid (valL l (K + 1) = valL l K ++ [l.getD K 0]) := rfl
        have xb := BD.out K
        have cv : IntKind.i64.wrap (l.getD K 0) = l.getD K 0 := by rw [IntKind.wrap_i64]; omega
        have cv2 : wrap64 (l.getD K 0) = l.getD K 0 := by unfold wrap64; omega
        have HN : Hid (∀ j u, [Value.int .i64 (l.getD K 0)][j]? = some u → (wr.alloc (.cells #[.int .i64 (l.getD K 0)] 2)).cell? ((⟨wr.heap.size, 0, none⟩ : Addr).add j) = some u) := by
          intro j u hj
          match j, hj with
          | 0, hj => simp at hj; subst hj; simp [Addr.add]
        have OWN := hideD hown.out
        unfold OwnV at OWN
        by_cases cq : K < q
        · have c1 : (K : Int) < (q : Int) := by omega
          obtain ⟨cb, off, rfl, a1⟩ := HC.out wr hB.out K cq
          generalize l.getD K 0 = x at *
          generalize hS : valL l K = s at *
          have HS := hideD hS
          clear hS HC HO BD xb hown
          go_upto_region 8 with (fail)
          clear a1 cv cv2
          go_wp2_with (at_builtin; refine wpList_append_own _ rfl _ _ 65 rfl w.heap.size 2 i0 (.int .i64 0) 1 8 Tryd.underlying65 hi0 hz0 hz1 hz2 rfl (by decide) _ s.length (s.map (Value.int .i64)) rfl (OWN.out.alloc _) ⟨wr.heap.size, 0, none⟩ 1 1 [.int .i64 x] rfl rfl HN.out (fun u hu => by simp at hu; subst hu; rfl) (by have := HLN.out; unfold maxLen; omega) (by have := HLN.out; omega) (by have := hsz.out; simp; omega) ?_; intro v' w1 hown' hgrow hnil)
          have hsz' := hsz.out
          have hb1 : Below w.heap.size w w1 := (hB.out.alloc hsz' _).grown hgrow (by simp; omega) (by intro q hq; exact (OWN.out.lt q hq).1)
          have B5 := hideD hb1
          have own5 : Hid (OwnV w1 v' w.heap.size (valL l (K + 1))) := by
            show w1.ownsRow _ _ _ _ _ _
            rw [NX.out, List.map_append, List.length_append]
            exact hown'
          clear hown' hgrow hb1 HN hB hsz' hsz hnil OWN
          go_meet
          exact ⟨own5, B5⟩
        · have c1 : ¬ ((K : Int) < (q : Int)) := by omega
          have e0 := HO.out K (by omega)
          rw [e0] at HN NX
          generalize hS : valL l K = s at *
          have HS := hideD hS
          clear hS HC HO BD xb hown e0 cv cv2
          go_upto_region 8 with (fail)
          go_wp2_with (at_builtin; refine wpList_append_own _ rfl _ _ 65 rfl w.heap.size 2 i0 (.int .i64 0) 1 8 Tryd.underlying65 hi0 hz0 hz1 hz2 rfl (by decide) _ s.length (s.map (Value.int .i64)) rfl (OWN.out.alloc _) ⟨wr.heap.size, 0, none⟩ 1 1 [.int .i64 0] rfl rfl HN.out (fun u hu => by simp at hu; subst hu; rfl) (by have := HLN.out; unfold maxLen; omega) (by have := HLN.out; omega) (by have := hsz.out; simp; omega) ?_; intro v' w1 hown' hgrow hnil)
          have hsz' := hsz.out
          have hb1 : Below w.heap.size w w1 := (hB.out.alloc hsz' _).grown hgrow (by simp; omega) (by intro q hq; exact (OWN.out.lt q hq).1)
          have B5 := hideD hb1
          have own5 : Hid (OwnV w1 v' w.heap.size (valL l (K + 1))) := by
            show w1.ownsRow _ _ _ _ _ _
            rw [NX.out, List.map_append, List.length_append]
            exact hown'
          clear hown' hgrow hb1 HN hB hsz' hsz hnil OWN
          go_meet
          exact ⟨own5, B5⟩
      case rest =>
        obtain ⟨o5, b5⟩ := hcut
        clear hown hB hsz HC HO BD
        go_wp2_with fail
        go_roundg (n - (K + 1))
        case measure => omega
        case rel => exact ⟨K + 1, by omega, rfl, by go_num, o5, b5⟩
    · have k1 : ¬ ((K : Int) < (n : Int)) := by omega
      obtain rfl : K = n := by omega
      clear HC HO BD
      go_wp2_with fail
      go_ret
      exact ⟨⟨_, rfl, hown⟩, hB.out⟩
set_option maxHeartbeats 4000000 in
theorem later_any (q cap : Nat) (d : Int) (ad : Option Addr) (l : List Int) (w : World) (hq : q ≤ 8) (hl : l.length = q) (hv : IntsAt w (.slice ad q cap) l) (hb : ∀ j, 0 ≤ l.getD j 0 ∧ l.getD j 0 ≤ 10000000) (d0 : 0 ≤ d) (d1 : d ≤ 65535) :
    Calls Tryd.prog 44 #[.slice ad q cap, .int .i64 d] w fun e w' => (∃ v, e = .returned v ∧ Hid (OwnV w' v w.heap.size (addL l d q))) ∧ Below w.heap.size w w' := by
  have HC : Hid (∀ wr, Below w.heap.size w wr → ∀ k, k < q → ∃ cb off, ad = some ⟨cb, off, none⟩ ∧ wr.cell? ⟨cb, off + k, none⟩ = some (.int .i64 (l.getD k 0))) := fun wr hb k hk => (hv.past hb).atP hl k hk
  have BD := hideD hb
  obtain ⟨i0, hi0, hz0, hz1, hz2⟩ := info_parts info_i64'
  clear hv hl hb
  go_enter Tryd.func44, Tryd.ntmps44
  go_wp2_with fail
  go_loopg [5, 6] q (fun g u s wr => ∃ (K : Nat), K ≤ q ∧ g = q - K ∧ s = .int .i64 (K : Int) ∧ Hid (OwnV wr u w.heap.size (addL l d K)) ∧ Hid (Below w.heap.size w wr))
  case atStart => exact ⟨0, by omega, rfl, rfl, World.ownsRow_nil _ _ _ _, Below.refl _ _⟩
  case round =>
    obtain ⟨K, hK, rfl, rfl, hown, hB⟩ := hrel
    by_cases ck : K < q
    · have k0 : (0 : Int) ≤ (K : Int) := by omega
      have k1 : (K : Int) < (q : Int) := by omega
      have hsz := hideD hB.out.size
      have HLN : Hid ((addL l d K).length = K ∧ q ≤ 8 ∧ K < q) := ⟨addL_len _ _ _, hq, ck⟩
      have NX : Hid (addL l d (K + 1) = addL l d K ++ [l.getD K 0 + d]) := rfl
      have xb := BD.out K
      have cv2 : wrap64 (l.getD K 0 + d) = l.getD K 0 + d := by unfold wrap64; omega
      have HN : Hid (∀ j u, [Value.int .i64 (l.getD K 0 + d)][j]? = some u → (wr.alloc (.cells #[.int .i64 (l.getD K 0 + d)] 2)).cell? ((⟨wr.heap.size, 0, none⟩ : Addr).add j) = some u) := by
        intro j u hj
        match j, hj with
        | 0, hj => simp at hj; subst hj; simp [Addr.add]
      have OWN := hideD hown.out
      unfold OwnV at OWN
      obtain ⟨cb, off, rfl, a1⟩ := HC.out wr hB.out K ck
      go_upto_block 1 with (fail)
      go_cut [5] (fun v wx => Hid (OwnV wx v w.heap.size (addL l d (K + 1))) ∧ Hid (Below w.heap.size w wx))
      case first =>
        generalize l.getD K 0 = x at *
        generalize hS : addL l d K = s at *
        have HS := hideD hS
        clear hS HC BD xb hown
        go_wp2_with (at_builtin; refine wpList_append_own _ rfl _ _ 65 rfl w.heap.size 2 i0 (.int .i64 0) 1 8 Tryd.underlying65 hi0 hz0 hz1 hz2 rfl (by decide) _ s.length (s.map (Value.int .i64)) rfl (OWN.out.alloc _) ⟨wr.heap.size, 0, none⟩ 1 1 [.int .i64 (x + d)] rfl rfl HN.out (fun u hu => by simp at hu; subst hu; rfl) (by have := HLN.out; unfold maxLen; omega) (by have := HLN.out; omega) (by have := hsz.out; simp; omega) ?_; intro v' w1 hown' hgrow hnil)
        have hsz' := hsz.out
        have hb1 : Below w.heap.size w w1 := (hB.out.alloc hsz' _).grown hgrow (by simp; omega) (by intro q hq; exact (OWN.out.lt q hq).1)
        have B5 := hideD hb1
        have own5 : Hid (OwnV w1 v' w.heap.size (addL l d (K + 1))) := by
          show w1.ownsRow _ _ _ _ _ _
          rw [NX.out, List.map_append, List.length_append]
          exact hown'
        clear hown' hgrow hb1 HN hB hsz' hsz hnil OWN
        go_meet
        exact ⟨own5, B5⟩
      case rest =>
        obtain ⟨o5, b5⟩ := hcut
        clear hown hB hsz HC BD HLN NX xb cv2 HN OWN a1
        go_wp2_with fail
        go_roundg (q - (K + 1))
        case measure => omega
        case rel => exact ⟨K + 1, by omega, rfl, by go_num, o5, b5⟩
    · have k1 : ¬ ((K : Int) < (q : Int)) := by omega
      obtain rfl : K = q := by omega
      clear HC BD
      go_wp2_with fail
      go_ret
      exact ⟨⟨_, rfl, hown⟩, hB.out⟩
end Go.Proofs.YtfffcmelkdmjaaaDoor

/-
  Do guards hold of a valuation in twelfths?
-/
namespace Go.Proofs.YtfffcmelkdmjaaaDoor
open Go.RowKit
set_option linter.unusedVariables false
set_option maxRecDepth 100000
def gD (V : Nat → Int) (L : Guas) (k : Nat) : Int := V (L.a k).toNat - V (L.o k).toNat - 12 * L.n k
def cmpB (k d : Int) : Bool := if k = 1 then decide (d < 0) else if k = 2 then decide (d ≤ 0) else if k = 3 then decide (d = 0) else if k = 4 then decide (0 ≤ d) else decide (0 < d)
def guaH (V : Nat → Int) (L : Guas) : Nat → Bool
  | 0 => true
  | k + 1 => guaH V L k && cmpB (L.k k) (gD V L k)
theorem guaH_stay {V : Nat → Int} {L : Guas} {k : Nat} (h : guaH V L k = false) : ∀ m, k ≤ m → guaH V L m = false := by
  intro m hm
  induction m with
  | zero => obtain rfl : k = 0 := by omega
            exact h
  | succ m ih =>
    by_cases e : k = m + 1
    · subst e; exact h
    · show (guaH V L m && _) = false
      rw [ih (by omega)]; rfl
set_option maxHeartbeats 8000000 in
theorem holds_any (n q cap cap' : Nat) (ad ad' : Option Addr) (l : List Int) (L : Guas) (w : World) (hn : n ≤ 8) (hn1 : 1 ≤ n) (hl : l.length = n) (hv : IntsAt w (.slice ad n cap) l) (hb : ∀ x ∈ l, 0 ≤ x ∧ x ≤ 10000000) (hL : L.q = q) (hV : GuaV w ad' L) (hq : q ≤ 9223372036854775807)
    (hk : ∀ k, k < q → ∃ A B : Nat, A ≤ n ∧ B ≤ n ∧ L.a k = (A : Int) ∧ L.o k = (B : Int) ∧ 1 ≤ L.k k ∧ L.k k ≤ 5 ∧ -1048576 ≤ L.n k ∧ L.n k ≤ 1048576) :
    Calls Tryd.prog 48 #[.slice ad n cap, .slice ad' q cap'] w fun e w' => e = .returned (.bool (guaH (ptV l) L q)) ∧ Below w.heap.size w w' := by
  have BD := hideD (ptV_bd (by omega) hb)
  have HK := hideD hk
  have HG : Hid (∀ wr, Below w.heap.size w wr → GuaV wr ad' L) := fun wr hb => hV.past hb
  obtain ⟨i0, hi0, hz0, hz1, hz2⟩ := info_parts info_i64'
  obtain ⟨cb, off, rfl⟩ : ∃ cb off, ad = some ⟨cb, off, none⟩ := by
    rcases hv with ⟨a, c, e, e'⟩ | ⟨cb, off, cap', e, _⟩
    · subst e'; simp at hl; omega
    · injection e with e1; exact ⟨cb, off, e1⟩
  have HN : Hid (∀ w', Below w.heap.size w w' → ∀ j u, (l.map (Value.int .i64))[j]? = some u → w'.cell? ((⟨cb, off, none⟩ : Addr).add j) = some u) := fun w' hb' j u hj => by
    have h := hv.past hb'
    rw [List.getElem?_map] at hj
    by_cases hjl : j < l.length
    · rw [List.getElem?_eq_getElem hjl] at hj
      injection hj with hj
      rcases h with ⟨a, c, e, e'⟩ | ⟨cb', off', cap', e, hcell⟩
      · subst e'; simp at hjl
      · injection e with e1 e2 e3
        injection e1 with e1
        injection e1 with f1 f2
        subst f1 f2
        have : w'.cell? ((⟨cb, off, none⟩ : Addr).add j) = some (.int .i64 (l.getD j 0)) := by rw [add_at]; exact hcell j hjl
        rw [show l.getD j 0 = l[j] by simp [List.getD, hjl]] at this
        rw [← hj]
        exact this
    · rw [List.getElem?_eq_none (by omega)] at hj; cases hj
  have HL : Hid (l.length = n ∧ n ≤ 8) := ⟨hl, hn⟩
  have HQ := hideD hL
  clear hv hb hl hk hV hL
  have O0 : Hid ((w.alloc (.cells #[.int .i64 0] 2)).ownsRow w.heap.size 2 1 (.slice (some ⟨w.heap.size, 0, none⟩) 1 1) 1 [.int .i64 0]) := own_one _ _ _
  have Bz : Hid (Below w.heap.size w (w.alloc (.cells #[.int .i64 0] 2))) := below_one _ _
  have Bs : Hid (w.heap.size ≤ (w.alloc (.cells #[.int .i64 0] 2)).heap.size) := by show _ ≤ _; simp
  have HNa := hideD (HN.out _ Bz.out)
  clear HN
  go_enter Tryd.func48, Tryd.ntmps48
  go_upto_region 1 with (fail)
  go_cut [5] (fun v wx => RowV wx v w.heap.size (0 :: l) ∧ Hid (Below w.heap.size w wx))
  case first =>
    clear HG HK BD hn1
    go_wp2_with (at_builtin; refine wpList_append_own _ rfl _ _ 65 rfl w.heap.size 2 i0 (.int .i64 0) 1 8 Tryd.underlying65 hi0 hz0 hz1 hz2 rfl (by decide) (.slice (some ⟨w.heap.size, 0, none⟩) 1 1) 1 [.int .i64 0] rfl O0.out ⟨cb, off, none⟩ n cap (l.map (Value.int .i64)) rfl (by have := HL.out; simp; omega) HNa.out (fun u hu => by obtain ⟨y, _, rfl⟩ := List.mem_map.1 hu; rfl) (by have := HL.out; unfold maxLen; omega) (by have := HL.out; omega) Bs.out ?_; intro v' w3 hown hgrow hnil')
    have hb3 : Below w.heap.size w w3 := Bz.out.grown hgrow (by simp) (fun k hk => by simp [Value.ownBlock] at hk; omega)
    have e1 : 1 + n = (0 :: l).length := by have := HL.out; simp; omega
    rw [e1] at hown
    have hown' : w3.ownsRow w.heap.size 2 1 v' (0 :: l).length (((0 :: l) : List Int).map (Value.int .i64)) := hown
    obtain ⟨g, cp, rfl⟩ := own_form hown'
    have lt := hown'.lt g rfl
    have HR : RowV w3 (.slice (some ⟨g, 0, none⟩) (0 :: l).length cp) w.heap.size (0 :: l) := ⟨g, cp, rfl, lt.1, fun j hj => by
      rw [hown'.cellAt j (by have := HL.out; simp at hj ⊢; omega), List.getElem?_map, List.getElem?_eq_getElem hj]
      simp [List.getD, List.getElem?_eq_getElem hj], fun a => hown'.frozenAt a⟩
    go_meet
    exact ⟨HR, hb3⟩
  case rest =>
    obtain ⟨⟨g, cp, rfl, gl, hcell, hfz⟩, hB⟩ := hcut
    have eL : ((0 :: l) : List Int).length = n + 1 := by have := HL.out; simp; omega
    rw [eL] at hcell ⊢
    have V3 : Hid (∀ j, j ≤ n → wc.cell? ⟨g, j, none⟩ = some (.int .i64 (ptV l j))) := fun j hj => hcell j (by omega)
    have B3 := hB
    clear hcell hfz eL hB O0 Bz Bs HNa HL gl
    obtain ⟨w3, h3⟩ : ∃ w3, w3 = wc := ⟨_, rfl⟩
    subst h3
    go_wp2_with fail
    go_loopg [6] q (fun g' s wr => ∃ (K : Nat), K ≤ q ∧ g' = q - K ∧ s = .int .i64 (K : Int) ∧ Hid (guaH (ptV l) L K = true) ∧ Hid (Below w3.heap.size w3 wr))
    case atStart => exact ⟨0, by omega, rfl, rfl, rfl, Below.refl _ _⟩
    case round =>
      obtain ⟨K, hK, rfl, rfl, hall, B5⟩ := hrel
      have B4 : Hid (Below w.heap.size w wr) := beyondD B3.out B5.out
      by_cases ck : K < q
      · have k0 : (0 : Int) ≤ (K : Int) := by omega
        have k1 : (K : Int) < (q : Int) := by omega
        obtain ⟨A, B, hA, hB, eA, eB, c1, c2, n1, n2⟩ := HK.out K ck
        obtain ⟨gb, go, rfl, g1, g2, g3, g4⟩ := HG.out wr B4.out K (by have := HQ.out; omega)
        rw [eA] at g1
        rw [eB] at g2
        have v1 := kc _ _ B5.out (V3.out A hA)
        have v2 := kc _ _ B5.out (V3.out B hB)
        have bA := BD.out A
        have bB := BD.out B
        have A0 : (0 : Int) ≤ (A : Int) := by omega
        have B0 : (0 : Int) ≤ (B : Int) := by omega
        have A1 : (A : Int) < (n : Int) + 1 := by omega
        have B1 : (B : Int) < (n : Int) + 1 := by omega
        have DD : Hid (gD (ptV l) L K = ptV l A - ptV l B - 12 * L.n K) := by show _ = _; unfold gD; rw [eA, eB]; rfl
        have NX : Hid (guaH (ptV l) L (K + 1) = (guaH (ptV l) L K && cmpB (L.k K) (gD (ptV l) L K))) := rfl
        rw [hall.out, Bool.true_and, DD.out] at NX
        have cN : ((n + 1 : Nat) : Int) = (n : Int) + 1 := by omega
        generalize ptV l A = va at *
        generalize ptV l B = vb at *
        generalize hk' : L.k K = kk at *
        generalize hn' : L.n K = nn at *
        have w1 : wrap64 (va - vb) = va - vb := by unfold wrap64; omega
        have w2 : wrap64 (12 * nn) = 12 * nn := by unfold wrap64; omega
        have w5 : wrap64 (va - vb - 12 * nn) = va - vb - 12 * nn := by unfold wrap64; omega
        have u1 : IntKind.i64.wrap (va - vb) = va - vb := by rw [IntKind.wrap_i64]; omega
        have u2 : IntKind.i64.wrap (12 * nn) = 12 * nn := by rw [IntKind.wrap_i64]; omega
        have u5 : IntKind.i64.wrap (va - vb - 12 * nn) = va - vb - 12 * nn := by rw [IntKind.wrap_i64]; omega
        have FIN : Hid (cmpB kk (va - vb - 12 * nn) = false → guaH (ptV l) L q = false) := fun h => guaH_stay (by rw [NX.out]; exact h) q ck
        clear eA eB DD hk' hn' HK HG BD V3 hall bA bB n1 n2
        go_upto_region 5 with (fail)
        go_quiet (fail)
        clear v1 v2 g1 g2 g4 u1 u2 u5 w1 w2 w5
        have cc : kk = 1 ∨ kk = 2 ∨ kk = 3 ∨ kk = 4 ∨ kk = 5 := by omega
        have CC := hideD cc
        generalize va - vb - 12 * nn = dd at *
        clear c1 c2 cc
        go_upto_block 2 with (fail)
        clear g3
        have B6 := hideD (below_drewN B5.out nq)
        clear B5
        generalize wr.drewN nq = wq at *
        go_cut [8] (fun s wx => (∃ b, s = .bool b ∧ Hid (b = cmpB kk dd)) ∧ wq = wx)
        case first =>
          rcases CC.out with h | h | h | h | h <;> subst h <;> clear CC NX FIN B6
          · go_wp2_with fail
            go_meet
            exact ⟨⟨_, rfl, by show _ = _; rw [Bool.eq_iff_iff]; simp [cmpB]⟩, rfl⟩
          · go_wp2_with fail
            go_meet
            exact ⟨⟨_, rfl, by show _ = _; rw [Bool.eq_iff_iff]; simp [cmpB]⟩, rfl⟩
          · go_wp2_with fail
            go_meet
            exact ⟨⟨_, rfl, by show _ = _; rw [Bool.eq_iff_iff]; simp [cmpB]⟩, rfl⟩
          · go_wp2_with fail
            go_meet
            exact ⟨⟨_, rfl, by show _ = _; rw [Bool.eq_iff_iff]; simp [cmpB]⟩, rfl⟩
          · go_wp2_with fail
            go_meet
            exact ⟨⟨_, rfl, by show _ = _; rw [Bool.eq_iff_iff]; simp [cmpB]⟩, rfl⟩
        case rest =>
          obtain ⟨⟨b, rfl, hb⟩, hw⟩ := hcut
          subst hw
          cases b with
          | true =>
            have ht : Hid (guaH (ptV l) L (K + 1) = true) := by show _ = _; rw [NX.out]; exact hb.out.symm
            clear CC NX FIN hb
            go_wp2_with fail
            go_roundg (q - (K + 1))
            case measure => omega
            case rel => exact ⟨K + 1, by omega, rfl, by go_num, ht, B6⟩
          | false =>
            have ht := hideD (FIN.out hb.out.symm)
            have B7 : Hid (Below w.heap.size w wq) := beyondD B3.out B6.out
            clear CC NX FIN hb B6
            go_wp2_with fail
            go_ret
            exact ⟨by rw [ht.out]; rfl, B7.out⟩
      · have k1 : ¬ ((K : Int) < (q : Int)) := by omega
        have e0 : Hid (guaH (ptV l) L q = true) := by obtain rfl : K = q := by omega
                                                      exact hall.out
        clear HK HG BD V3 hall
        go_wp2_with fail
        go_ret
        exact ⟨by rw [e0.out]; rfl, B4.out⟩
end Go.Proofs.YtfffcmelkdmjaaaDoor
