/-
  fed.New: rows of zones, some of them nil.
-/
import Derived.Test.YtnfkmpickmonoaaGreatQ24
namespace Go.Proofs.YtnfkmpickmonoaaGreat
open Go.RowKit Go.Shelf
set_option linter.unusedVariables false
set_option maxRecDepth 100000
attribute [local go_sem] Oper.semAt_some
theorem run_equalIn_nil_ptr7 {P : Program} (w : World) (d : Nat) (t : TypeId) (a : Addr) (h : P.underlying t = some (.pointer (P.pointee t))) :
    (Op.equalIn (d + 1) t (.pointer none) (.pointer (some a))).run P w = .ok false w := by
  simp [Op.equalIn, run_underlying h]
theorem run_equal_nil_ptr7 {P : Program} (w : World) (t : TypeId) (a : Addr) (h : P.underlying t = some (.pointer (P.pointee t))) : (Op.equal t (.pointer none) (.pointer (some a))).run P w = .ok false w := run_equalIn_nil_ptr7 w 9999 t a h
theorem run_eql_nil_ptr7 {P : Program} (w : World) (t : TypeId) (a : Addr) (h : P.underlying t = some (.pointer (P.pointee t))) : (binOp .eql t (.pointer none) (.pointer (some a))).run P w = .ok (.bool false) w := by
  simp only [binOp]
  simp [run_equal_nil_ptr7 w t a h]
attribute [local go_sem] run_eql_nil_ptr7
/-- Where a zone lies, or nil. -/
abbrev PZ7 := Option ZR
abbrev ptr7 (z : PZ7) : Value := .pointer (z.map fun z => ⟨z.1, 0, none⟩)
/-- A row of zones in memory. -/
structure PRow (w : World) (ad : Option Addr) (n m : Nat) (ps : List PZ7) : Prop where
  cell : ∀ k (hk : k < ps.length), ∃ g, ad = some ⟨g, 0, none⟩ ∧ w.cell? ⟨g, k, none⟩ = some (ptr7 ps[k])
  zones : ∀ z, some z ∈ ps → ZoneAt w z.1 n z.2 ∧ ZC n m z.2
theorem PRow.same {A B : World} (hs : SameC none A B) {ad : Option Addr} {n m : Nat} {ps : List PZ7} (h : PRow A ad n m ps) : PRow B ad n m ps :=
  ⟨fun k hk => by
    obtain ⟨g, h1, h2⟩ := h.cell k hk
    exact ⟨g, h1, hs.cell h2 (by simp)⟩, fun z hz => ⟨hs.zone (h.zones z hz).1 (by simp), (h.zones z hz).2⟩⟩
theorem PRow.past {A B : World} (hb : Below A.heap.size A B) {ad : Option Addr} {n m : Nat} {ps : List PZ7} (h : PRow A ad n m ps) : PRow B ad n m ps := h.same (SameC.below hb)
theorem indexNil_any (ad : Option Addr) (cap q n m : Nat) (ps : List PZ7) (w : World) (hq : ps.length = q) (q1 : q ≤ 9223372036854775807) (hV : PRow w ad n m ps) :
    Calls Tryz.prog 58 #[.slice ad q cap, .pointer none] w fun e w' => (∃ z : Int, e = .returned (.int .i64 z) ∧ (((∀ p ∈ ps, p ≠ none) ∧ z = -1) ∨ (none ∈ ps ∧ 0 ≤ z))) ∧ w' = w := by
  have HV := hideD hV
  have HQ := hideD hq
  clear hV hq
  go_enter Tryz.func58, Tryz.ntmps58
  go_wp2_with fail
  go_loopw [8] (fun s wr => ∃ (K : Nat), K ≤ q ∧ s = .int .i64 (K : Int) ∧ Hid (∀ j (hj : j < ps.length), j < K → ps[j] ≠ none) ∧ Hid (wr = w)) (fun s _ => q - (intOf s).toNat)
  case atStart => exact ⟨0, by omega, rfl, fun j _ h => by omega, rfl⟩
  case round =>
    obtain ⟨K, hK, rfl, O, B⟩ := hrel
    obtain rfl := B.out
    by_cases ck : K < q
    · have hl : K < ps.length := by rw [HQ.out]; exact ck
      obtain ⟨b, rfl, c0⟩ := HV.out.cell K hl
      have k0 : (K : Int) < (q : Int) := by omega
      obtain ⟨z, hz⟩ : ∃ z, ps[K] = z := ⟨_, rfl⟩
      rw [hz] at c0
      cases z with
      | none =>
        have F : Hid (none ∈ ps) := by
          show none ∈ ps
          rw [← hz]
          exact List.getElem_mem hl
        simp only [ptr7, Option.map_none] at c0
        clear hz O B
        go_wp2_with fail
        go_ret
        exact ⟨⟨_, rfl, .inr ⟨F.out, by omega⟩⟩, rfl⟩
      | some z =>
        have O1 : Hid (∀ j (hj : j < ps.length), j < K + 1 → ps[j] ≠ none) := fun j hj h => by
          by_cases e : j = K
          · subst e
            rw [hz]
            simp
          · exact O.out j hj (by omega)
        simp only [ptr7, Option.map_some] at c0
        clear hz O B
        go_wp2_with fail
        go_roundw
        case rel => exact ⟨K + 1, by omega, by go_num, O1, by first | exact rfl | trivial⟩
        case measure => simp [intOf]; omega
    · have k0 : ¬ (K : Int) < (q : Int) := by omega
      have F : Hid (∀ p ∈ ps, p ≠ none) := fun p hp => by
        obtain ⟨j, hj, rfl⟩ := List.mem_iff_getElem.1 hp
        exact O.out j hj (by have := HQ.out; omega)
      clear O B
      go_wp2_with fail
      go_ret
      exact ⟨⟨_, rfl, .inl ⟨F.out, rfl⟩⟩, rfl⟩
def hasNil (ps : List PZ7) : Bool := ps.any (·.isNone)
theorem hasNil_yes {ps : List PZ7} (h : none ∈ ps) : hasNil ps = true := List.any_eq_true.2 ⟨none, h, rfl⟩
theorem hasNil_no {ps : List PZ7} (h : ∀ p ∈ ps, p ≠ none) : hasNil ps = false := by
  rw [hasNil, List.any_eq_false]
  intro p hp
  have := h p hp
  cases p <;> simp_all
theorem hasNil_out {ps : List PZ7} (h : hasNil ps = false) : ∀ p ∈ ps, p ≠ none := fun p hp e => by
  subst e
  rw [hasNil_yes hp] at h
  cases h
theorem containsNil_any (ad : Option Addr) (cap q n m : Nat) (ps : List PZ7) (w : World) (hq : ps.length = q) (q1 : q ≤ 9223372036854775807) (hV : PRow w ad n m ps) :
    Calls Tryz.prog 27 #[.slice ad q cap, .pointer none] w fun e w' => e = .returned (.bool (hasNil ps)) ∧ w' = w := by
  have H := hideD (indexNil_any ad cap q n m ps w hq q1 hV)
  clear hV hq
  go_enter Tryz.func27, Tryz.ntmps27
  go_wp2_with fail
  refine H.out.mono ?_
  rintro e w1 ⟨⟨z, rfl, h⟩, e1⟩
  obtain rfl := e1.symm
  have HZ : Hid (decide (0 ≤ z) = hasNil ps) := by
    show _ = _
    rcases h with ⟨h1, rfl⟩ | ⟨h1, h2⟩
    · rw [hasNil_no h1]; rfl
    · rw [hasNil_yes h1]; simpa using h2
  clear h H e1
  go_wp2_with fail
  go_ret
  exact ⟨by rw [← HZ.out]; rfl, rfl⟩
theorem dimNe_any (bx b n : Nat) (c : Row) (w : World) (hz : ZoneAt w b n c) (hb : w.cell? ⟨bx, 0, none⟩ = some (.int .i64 (n : Int))) :
    Calls Tryz.prog 29 #[.pointer (some ⟨b, 0, none⟩), .pointer (some ⟨bx, 0, none⟩)] w fun e w' => e = .returned (.bool false) ∧ Below w.heap.size w w' := by
  have HD := hideD (fun w' (h : Below w.heap.size w w') => zdim_any b n c w' (hz.past h))
  clear hz
  go_enter Tryz.func29, Tryz.ntmps29
  go_wp2_with fail
  go_region_held3 (fun w' => Below w.heap.size w w' ∧ w'.cell? ⟨bx, 0, none⟩ = some (.int .i64 n))
    (first | exact ⟨by first | assumption | exact Below.refl _ _ | exact Below.drew (Below.refl _ _) | exact Below.drew (by assumption), by first | assumption | simp [go_sem, *]⟩ | go_keep)
    (first | (go_at_call 30; refine (HD.out _ (by first | assumption | exact Below.refl _ _ | exact Below.drew (Below.refl _ _) | exact Below.drew (by assumption))).mono ?_; rintro e' w' ⟨rfl, rfl⟩))
  all_goals
    go_wp2_with fail
    go_ret
    exact ⟨by first | rfl | simp, by first | assumption | exact Below.drew (Below.refl _ _)⟩
theorem indexDim_any (ad : Option Addr) (cap q n m bx : Nat) (ps : List PZ7) (w : World) (hq : ps.length = q) (q1 : q ≤ 9223372036854775807) (hV : PRow w ad n m ps) (hn : ∀ p ∈ ps, p ≠ none) (hb : w.cell? ⟨bx, 0, none⟩ = some (.int .i64 (n : Int))) :
    Calls Tryz.prog 59 #[.slice ad q cap, .func (.func 29) #[] #[.pointer (some ⟨bx, 0, none⟩)]] w fun e w' => e = .returned (.int .i64 (-1)) ∧ Below w.heap.size w w' := by
  have HV := hideD hV
  have HQ := hideD hq
  have HN := hideD hn
  have HB := hideD hb
  clear hV hq hn hb
  go_enter Tryz.func59, Tryz.ntmps59
  go_wp2_with fail
  go_loopw [8] (fun s wr => ∃ (K : Nat), K ≤ q ∧ s = .int .i64 (K : Int) ∧ Hid (Below w.heap.size w wr)) (fun s _ => q - (intOf s).toNat)
  case atStart => exact ⟨0, by omega, rfl, Below.refl _ _⟩
  case round =>
    obtain ⟨K, hK, rfl, B⟩ := hrel
    by_cases ck : K < q
    · have hl : K < ps.length := by rw [HQ.out]; exact ck
      obtain ⟨b, rfl, c0⟩ := (HV.out.past B.out).cell K hl
      have k0 : (K : Int) < (q : Int) := by omega
      obtain ⟨z, hz⟩ : ∃ z, ps[K] = some z := by
        have := HN.out _ (List.getElem_mem hl)
        cases e : ps[K] with
        | none => exact absurd e this
        | some z => exact ⟨z, rfl⟩
      have hzz := HV.out.zones z (by rw [← hz]; exact List.getElem_mem hl)
      rw [hz] at c0
      simp only [ptr7, Option.map_some] at c0
      have HR := hideD (dimNe_any bx z.1 n z.2 wr (hzz.1.past B.out) (kc _ _ B.out HB.out))
      clear hz hzz
      go_wp2_with fail
      refine HR.out.mono ?_
      rintro e w1 ⟨rfl, hb⟩
      have B1 := hideD (beyondD B.out hb)
      clear hb B HR c0
      go_wp2_with fail
      go_roundw
      case rel => exact ⟨K + 1, by omega, by go_num, B1⟩
      case measure => simp [intOf]; omega
    · have k0 : ¬ (K : Int) < (q : Int) := by omega
      go_wp2_with fail
      go_ret
      exact ⟨rfl, B.out⟩
theorem containsDim_any (ad : Option Addr) (cap q n m bx : Nat) (ps : List PZ7) (w : World) (hq : ps.length = q) (q1 : q ≤ 9223372036854775807) (hV : PRow w ad n m ps) (hn : ∀ p ∈ ps, p ≠ none) (hb : w.cell? ⟨bx, 0, none⟩ = some (.int .i64 (n : Int))) :
    Calls Tryz.prog 28 #[.slice ad q cap, .func (.func 29) #[] #[.pointer (some ⟨bx, 0, none⟩)]] w fun e w' => e = .returned (.bool false) ∧ Below w.heap.size w w' := by
  have H := hideD (indexDim_any ad cap q n m bx ps w hq q1 hV hn hb)
  clear hV hq hn hb
  go_enter Tryz.func28, Tryz.ntmps28
  go_wp2_with fail
  refine H.out.mono ?_
  rintro e w1 ⟨rfl, hb⟩
  have HB := hideD hb
  clear hb H
  go_wp2_with fail
  go_ret
  exact ⟨rfl, HB.out⟩
end Go.Proofs.YtnfkmpickmonoaaGreat

/-
  fed.New.
-/
namespace Go.Proofs.YtnfkmpickmonoaaGreat
open Go.RowKit Go.Shelf
set_option linter.unusedVariables false
set_option maxRecDepth 100000
attribute [local go_sem] Oper.semAt_some
/-- A zone that is handed in, as what is laid. -/
def ysP (p : PZ7) : YS := (p.map (·.2), 0)
/-- The first ones, laid. -/
def nwK (ps : List PZ7) (K : Nat) : List Row × Int := layL ([], 0) ((ps.take K).map ysP)
def newL (ps : List PZ7) : List Row × Int := layL ([], 0) (ps.map ysP)
theorem nwK_next {ps : List PZ7} {K : Nat} (h : K < ps.length) : nwK ps (K + 1) = layS (nwK ps K) (ysP ps[K]) := by
  unfold nwK
  have e : ps.take (K + 1) = ps.take K ++ [ps[K]] := by
    rw [List.take_add_one, List.getElem?_eq_getElem h]
    rfl
  rw [e, List.map_append, List.map_singleton, layL_snoc]
theorem nwK_all {ps : List PZ7} {K : Nat} (h : ps.length = K) : nwK ps K = newL ps := by
  subst h
  simp [nwK, newL]
theorem nwK_stop {ps : List PZ7} {K : Nat} {t : List Row × Int} (h : nwK ps K = t) (ht : t.2 ≠ 0) : newL ps = t :=
  layL_pre (ps := (ps.take K).map ysP) (ys := ps.map ysP) (by
    rw [List.map_take]
    exact List.take_prefix _ _) h ht
structure NI (H r n : Nat) (ps : List PZ7) (s : List Row) (w W : World) (zs : List ZR) (v : Value) : Prop where
  row : RowF W H r n zs v
  told : zs.map (·.2) = s
  of : ∀ e ∈ zs, some e ∈ ps ∧ ¬ e.2 0 < 1
  below : Below H w W
  len : zs.length ≤ 4096
  hr : H ≤ r
theorem NI.past {H r n : Nat} {ps : List PZ7} {s : List Row} {w A B : World} {zs : List ZR} {v : Value} (h : NI H r n ps s w A zs v) (hb : Below A.heap.size A B) (hA : H ≤ A.heap.size) : NI H r n ps s w B zs v :=
  ⟨h.row.past hb, h.told, h.of, h.below.trans (hb.mono hA), h.len, h.hr⟩
theorem NI.more {H r n : Nat} {ps : List PZ7} {s : List Row} {w A B : World} {zs : List ZR} {v v2 : Value} {z : ZR} (h : NI H r n ps s w A zs v) (hz : some z ∈ ps) (h1 : ¬ z.2 0 < 1) (h2 : zs.length ≠ 4096) (hR : RowF B H r n (zs ++ [(z.1, z.2)]) v2) (hG : Grew r v v2 A B) (hA : H ≤ A.heap.size) : NI H r n ps (s ++ [z.2]) w B (zs ++ [(z.1, z.2)]) v2 :=
  ⟨hR, by simp [h.told], fun e he => by
    rcases List.mem_append.1 he with q | q
    · exact h.of e q
    · rw [List.mem_singleton.1 q]; exact ⟨hz, h1⟩, h.below.trans (hG.below h.hr (fun k e => by
      rcases h.row.own.2 with ⟨q, -⟩ | ⟨g, cap, cur, g1, g2, g3, g4⟩
      · rw [q] at e; cases e
      · rw [g1] at e
        injection e with e
        subst e
        exact g2) hA), by have := h.len; rw [List.length_append, List.length_singleton]; omega, h.hr⟩
theorem NI.done {H r n m : Nat} {ps : List PZ7} {s : List Row} {w A : World} {zs : List ZR} {v : Value} (h : NI H r n ps s w A zs v) (hz : ∀ z, some z ∈ ps → ZoneAt A z.1 n z.2 ∧ ZC n m z.2) : FedAt (A.alloc (.cells #[.int .i64 (n : Int), v] 67)) A.heap.size n m zs := by
  have s1 := SameC.below (below_one A (.cells #[.int .i64 (n : Int), v] 67))
  exact ⟨by simp [go_sem], ⟨v, by simp [go_sem], s1.owns ⟨h.row.own.1, h.row.own.2.imp id (fun ⟨g, cap, cur, h1, h2, h3⟩ => ⟨g, cap, cur, h1, Nat.zero_le _, h3⟩)⟩ (fun x e => by cases e)⟩, fun e he => ⟨s1.zone (hz e (h.of e he).1).1 (by simp), (hz e (h.of e he).1).2, (h.of e he).2⟩, h.len⟩
/-- Its row is the call's own. -/
def OwnFed (H : Nat) (e : Ending) (W : World) : Prop := ∀ fb, e = .returned (.tuple #[.pointer (some ⟨fb, 0, none⟩), .int .i64 0]) → ∃ v, W.cell? ⟨fb, 1, none⟩ = some v ∧ ∀ k, v.ownBlock = some k → H ≤ k
set_option maxHeartbeats 4000000 in
theorem new_own (ad : Option Addr) (cap q n m : Nat) (ps : List PZ7) (w : World) (hn : n ≤ 8) (hq : ps.length = q) (q1 : q ≤ 9223372036854775807) (hV : PRow w ad n m ps) (hN : hasNil ps = false) :
    Calls Tryz.prog 7 #[.int .i64 (n : Int), .slice ad q cap] w fun e w' => MinusOut w.heap.size n m (newL ps) e w' ∧ OwnFed w.heap.size e w' ∧ Below w.heap.size w w' := by
  have B1 := below_one w (.cells #[.int .i64 (n : Int)] 3)
  have HC := hideD (containsNil_any ad cap q n m ps _ hq q1 (hV.past B1))
  have HD := hideD (containsDim_any ad cap q n m w.heap.size ps (w.alloc (.cells #[.int .i64 (n : Int)] 3)) hq q1 (hV.past B1) (hasNil_out hN) (by simp [go_sem]))
  rw [hN] at HC
  have HV := hideD hV
  have HQ := hideD hq
  have HO := hideD (hasNil_out hN)
  have HNN := hideD hn
  have n8 : (n : Int) ≤ 8 := by omega
  have n0 : ¬ (n : Int) < 0 := by omega
  have n9 : ¬ (8 : Int) < (n : Int) := by omega
  have c2 : (w.alloc (.cells #[.int .i64 (n : Int)] 3)).cell? ⟨w.heap.size, 0, none⟩ = some (.int .i64 (n : Int)) := by simp [go_sem]
  have sz1 : (w.alloc (.cells #[.int .i64 (n : Int)] 3)).heap.size = w.heap.size + 1 := by simp
  clear hV hq hN hn
  go_enter Tryz.func7, Tryz.ntmps7
  go_wp2_with fail
  generalize w.alloc (.cells #[.int .i64 (n : Int)] 3) = W1 at *
  refine HC.out.mono ?_
  rintro e w1 ⟨rfl, e1⟩
  obtain rfl := e1.symm
  clear HC e1
  go_wp2_with fail
  refine HD.out.mono ?_
  rintro e W2 ⟨rfl, hb⟩
  have c3 := kc _ _ hb c2
  have B2 := hideD (B1.trans (hb.mono (by omega)))
  have sz2 := hb.size
  clear HD hb B1 c2
  have I0 : Hid ((nwK ps 0).2 = 0 ∧ NI w.heap.size W2.heap.size n ps (nwK ps 0).1 w (W2.alloc (.cells #[.int .i64 (n : Int), .slice none 0 0] 65)) [] (.slice none 0 0)) :=
    ⟨rfl, ⟨by simp [go_sem], by simp [go_sem], by simp [go_sem], World.ownsRow_nil _ _ _ _, by simp [Value.ownBlock]⟩, rfl, by simp, B2.out.trans ((below_one W2 _).mono B2.out.size), by simp, B2.out.size⟩
  go_wp2_with fail
  go_loopw [24] (fun i wr => ∃ (K : Nat) (zs : List ZR) (v : Value), K ≤ q ∧ i = .int .i64 (K : Int) ∧ Hid ((nwK ps K).2 = 0 ∧ NI w.heap.size W2.heap.size n ps (nwK ps K).1 w wr zs v)) (fun i _ => q - (intOf i).toNat)
  case atStart => exact ⟨0, [], _, Nat.zero_le _, rfl, I0⟩
  case round =>
    obtain ⟨K, zs, v, hK, rfl, HI⟩ := hrel
    have hwr := HI.out.2.below.size
    by_cases ck : K < q
    · have hl : K < ps.length := by rw [HQ.out]; exact ck
      obtain ⟨g, rfl, c0⟩ := (HV.out.cell K hl)
      have c0 := kc _ _ HI.out.2.below c0
      have k0 : (K : Int) < (q : Int) := by omega
      obtain ⟨z, hz⟩ : ∃ z, ps[K] = some z := by
        have := HO.out _ (List.getElem_mem hl)
        cases e : ps[K] with
        | none => exact absurd e this
        | some z => exact ⟨z, rfl⟩
      have hmem : some z ∈ ps := by rw [← hz]; exact List.getElem_mem hl
      have hzz := HV.out.zones z hmem
      rw [hz] at c0
      simp only [ptr7, Option.map_some] at c0
      obtain ⟨s, hs⟩ : ∃ s, (nwK ps K).1 = s := ⟨_, rfl⟩
      have EK : nwK ps K = (s, 0) := Prod.ext hs HI.out.1
      have EN := nwK_next hl
      rw [EK, hz] at EN
      have N := HI.out.2
      rw [hs] at N
      have hlen : s.length = zs.length := by rw [← N.told]; simp
      have HA := hideD (fadd_any w.heap.size W2.heap.size n z.1 z.2 zs v wr HNN.out (hzz.1.past N.below) N.row N.len hwr)
      have FS : Hid (∀ W7, z.2 0 < 1 → Below wr.heap.size wr W7 → (nwK ps (K + 1)).2 = 0 ∧ NI w.heap.size W2.heap.size n ps (nwK ps (K + 1)).1 w W7 zs v) := fun W7 h1 hb => by
        rw [EN]
        simp only [layS, ysP, Option.map_some]
        simp [h1]
        exact N.past hb hwr
      have FM : Hid (∀ W7 v2, ¬ z.2 0 < 1 → zs.length ≠ 4096 → RowF W7 w.heap.size W2.heap.size n (zs ++ [(z.1, z.2)]) v2 → Grew W2.heap.size v v2 wr W7 → (nwK ps (K + 1)).2 = 0 ∧ NI w.heap.size W2.heap.size n ps (nwK ps (K + 1)).1 w W7 (zs ++ [(z.1, z.2)]) v2) := fun W7 v2 h1 h2 h3 h4 => by
        have h2' : s.length ≠ 4096 := by omega
        have e : layS (s, 0) (ysP (some z)) = (s ++ [z.2], 0) := by
          simp only [layS, ysP, Option.map_some]
          simp [h1, h2']
        rw [EN, e]
        exact ⟨rfl, N.more hmem h1 h2 h3 h4 hwr⟩
      have FE : Hid (∀ W7, ¬ z.2 0 < 1 → zs.length = 4096 → Below wr.heap.size wr W7 → (newL ps = (s, 3)) ∧ Below w.heap.size w W7) := fun W7 h1 h2 hb => by
        have h2' : s.length = 4096 := by omega
        have e : layS (s, 0) (ysP (some z)) = (s, 3) := by
          simp only [layS, ysP, Option.map_some]
          simp [h1, h2']
        exact ⟨nwK_stop (EN.trans e) (by simp), N.below.trans (hb.mono hwr)⟩
      clear hz hzz hmem hs EK EN N hlen HI
      obtain ⟨zb7, zc7⟩ := z
      simp only at HA FS FM FE c0
      go_wp2_with fail
      refine HA.out.mono ?_
      rintro e W7 (⟨h1, rfl, hb⟩ | ⟨h1, h2, rfl, hb⟩ | ⟨h1, h2, rfl, v2, hR2, hG⟩)
      · have F := hideD (FS.out W7 h1 hb)
        clear FS FM FE h1 hb HA c0
        go_wp2_with fail
        go_roundw
        case rel => exact ⟨K + 1, zs, v, by omega, by go_num, F⟩
        case measure => simp [intOf]; omega
      · have F := hideD (FE.out W7 (by omega) h2 hb)
        clear FS FM FE h1 h2 hb HA c0
        go_wp2_with fail
        refine bodyPost_ret (v := .tuple #[.pointer none, .int .i64 3]) (by simp [results, Tryz.results7, go_sem]) rfl ?_
        exact ⟨.inl ⟨by rw [F.out.1]; simp, by rw [F.out.1]⟩, fun fb e => (by cases e), F.out.2⟩
      · have F := hideD (FM.out W7 v2 (by omega) h2 hR2 hG)
        clear FS FM FE h1 h2 hR2 hG HA c0
        go_wp2_with fail
        go_roundw
        case rel => exact ⟨K + 1, _, v2, by omega, by go_num, F⟩
        case measure => simp [intOf]; omega
    · have eK : K = q := by omega
      have k0 : ¬ (K : Int) < (q : Int) := by omega
      obtain ⟨s, hs⟩ : ∃ s, (nwK ps K).1 = s := ⟨_, rfl⟩
      have EK : Hid (newL ps = (s, 0)) := by
        show _ = _
        rw [← nwK_all (HQ.out.trans eK.symm)]
        exact Prod.ext hs HI.out.1
      have N := HI.out.2
      rw [hs] at N
      have r0 := N.row.c0
      have r1 := N.row.c1
      have FD := hideD (N.done (m := m) (fun z hz => ⟨(HV.out.zones z hz).1.past N.below, (HV.out.zones z hz).2⟩))
      have HT := hideD N.told
      have OW : Hid (OwnFed w.heap.size (.returned (.tuple #[.pointer (some ⟨wr.heap.size, 0, none⟩), .int .i64 0])) (wr.alloc (.cells #[.int .i64 (n : Int), v] 67))) := fun fb e => by
        injection e with e
        injection e with e
        simp at e
        subst e
        refine ⟨v, by simp [go_sem], fun k h => ?_⟩
        rcases N.row.own.2 with ⟨q, -⟩ | ⟨g, cap, cur, h1, h2, -⟩
        · rw [q] at h; cases h
        · rw [h1] at h
          injection h with h
          subst h
          exact h2
      have HB := hideD (N.below.trans ((below_one wr (.cells #[.int .i64 (n : Int), v] 67)).mono hwr))
      clear hs N HI eK
      go_wp2_with fail
      refine bodyPost_ret (v := .tuple #[.pointer (some ⟨wr.heap.size, 0, none⟩), .int .i64 0]) (by simp [results, Tryz.results7, go_sem]) rfl ?_
      exact ⟨.inr ⟨by rw [EK.out], _, zs, hwr, rfl, FD.out, by rw [EK.out]; exact HT.out⟩, OW.out, HB.out⟩
theorem new_any (ad : Option Addr) (cap q n m : Nat) (ps : List PZ7) (w : World) (hn : n ≤ 8) (hq : ps.length = q) (q1 : q ≤ 9223372036854775807) (hV : PRow w ad n m ps) (hN : hasNil ps = false) :
    Calls Tryz.prog 7 #[.int .i64 (n : Int), .slice ad q cap] w fun e w' => MinusOut w.heap.size n m (newL ps) e w' ∧ Below w.heap.size w w' :=
  (new_own ad cap q n m ps w hn hq q1 hV hN).mono fun e w' h => ⟨h.1, h.2.2⟩
end Go.Proofs.YtnfkmpickmonoaaGreat
