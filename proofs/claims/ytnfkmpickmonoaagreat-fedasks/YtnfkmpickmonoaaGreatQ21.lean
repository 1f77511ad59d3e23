/-
  fed: Dim, Empty, Zones; New's errors.
-/
import Derived.Laws.AppendOwnNone
import Derived.Lib.BufferMore
import Derived.Test.YtnfkmpickmonoaaGreatQ20
import Derived.OrdersHeld
import Derived.Deep.RegionHeld
import Derived.Test.YtnfkmpickmonoaaGreatQ4
import Derived.Test.YtnfkmpickmonoaaGreatQ13
namespace Go.Proofs.YtnfkmpickmonoaaGreat
open Go.RowKit Go.Shelf
set_option linter.unusedVariables false
set_option maxRecDepth 100000
attribute [local go_sem] Oper.semAt_some
theorem fdim_any (fb n : Nat) (w : World) (c0 : w.cell? ⟨fb, 0, none⟩ = some (.int .i64 (n : Int))) : Calls Tryz.prog 24 #[.pointer (some ⟨fb, 0, none⟩)] w fun e w' => e = .returned (.int .i64 (n : Int)) ∧ w' = w := by
  go_enter Tryz.func24, Tryz.ntmps24
  go_wp2_with fail
  go_ret
  exact ⟨rfl, rfl⟩
theorem fempty_any (fb n m : Nat) (zs : List ZR) (w : World) (hf : FedAt w fb n m zs) : Calls Tryz.prog 26 #[.pointer (some ⟨fb, 0, none⟩)] w fun e w' => e = .returned (.bool (decide (zs.length = 0))) ∧ w' = w := by
  obtain ⟨v, c1, hown⟩ := hf.c1
  obtain ⟨q, hq⟩ : ∃ q, zs.length = q := ⟨_, rfl⟩
  obtain ⟨ad, cap, rfl⟩ := own_sl hown
  rw [hq] at c1 ⊢
  have HL := hideD (long_any fb q cap ad w c1)
  obtain ⟨t, ht⟩ : ∃ t, ((q : Int) == 0) = t := ⟨_, rfl⟩
  have HT : Hid (decide (q = 0) = t) := by
    show _ = _
    rw [← ht]
    by_cases c : q = 0
    · subst c; rfl
    · have c' : ¬ (q : Int) = 0 := by omega
      simp [c]
  clear hf hown hq c1
  go_enter Tryz.func26, Tryz.ntmps26
  go_wp2_with fail
  refine HL.out.mono ?_
  rintro e w1 ⟨rfl, e1⟩
  obtain rfl := e1.symm
  clear HL e1
  cases t with
  | true =>
    go_wp2_with fail
    go_ret
    exact ⟨by rw [HT.out]; rfl, rfl⟩
  | false =>
    go_wp2_with fail
    go_ret
    exact ⟨by rw [HT.out]; rfl, rfl⟩
theorem new_clock (x : Int) (l : Value) (w : World) (hx : x < 0 ∨ 8 < x) : Calls Tryz.prog 7 #[.int .i64 x, l] w fun e w' => e = .returned (.tuple #[.pointer none, .int .i64 12]) ∧ Below w.heap.size w w' := by
  have B1 := hideD (below_one w (.cells #[.int .i64 x] 3))
  by_cases c : x < 0
  · clear hx
    go_enter Tryz.func7, Tryz.ntmps7
    go_wp2_with fail
    refine bodyPost_ret (v := .tuple #[.pointer none, .int .i64 12]) (by simp [results, Tryz.results7, go_sem]) rfl ?_
    exact ⟨rfl, B1.out⟩
  · have c8 : 8 < x := by omega
    clear hx
    go_enter Tryz.func7, Tryz.ntmps7
    go_wp2_with fail
    refine bodyPost_ret (v := .tuple #[.pointer none, .int .i64 12]) (by simp [results, Tryz.results7, go_sem]) rfl ?_
    exact ⟨rfl, B1.out⟩
theorem new_nil (ad : Option Addr) (cap q n m : Nat) (ps : List PZ7) (w : World) (hn : n ≤ 8) (hq : ps.length = q) (q1 : q ≤ 9223372036854775807) (hV : PRow w ad n m ps) (hN : hasNil ps = true) :
    Calls Tryz.prog 7 #[.int .i64 (n : Int), .slice ad q cap] w fun e w' => e = .returned (.tuple #[.pointer none, .int .i64 1]) ∧ Below w.heap.size w w' := by
  have B1 := below_one w (.cells #[.int .i64 (n : Int)] 3)
  have HC := hideD (containsNil_any ad cap q n m ps _ hq q1 (hV.past B1))
  rw [hN] at HC
  have HB := hideD B1
  have n8 : (n : Int) ≤ 8 := by omega
  have n0 : ¬ (n : Int) < 0 := by omega
  have n9 : ¬ (8 : Int) < (n : Int) := by omega
  clear hV hq hN hn B1
  go_enter Tryz.func7, Tryz.ntmps7
  go_wp2_with fail
  refine HC.out.mono ?_
  rintro e w1 ⟨rfl, e1⟩
  obtain rfl := e1.symm
  clear HC e1
  go_wp2_with fail
  refine bodyPost_ret (v := .tuple #[.pointer none, .int .i64 1]) (by simp [results, Tryz.results7, go_sem]) rfl ?_
  exact ⟨rfl, HB.out⟩
theorem cell_pvs {w : World} {zs : List ZR} {g : Nat} (h : ∀ k (hk : k < zs.length), w.cell? ⟨g, k, none⟩ = some (pvF zs[k])) (j : Nat) (u : Value) (hu : (zs.map pvF)[j]? = some u) : w.cell? ((⟨g, 0, none⟩ : Addr).add j) = some u := by
  by_cases hj : j < zs.length
  · have := h j hj
    rw [List.getElem?_map, List.getElem?_eq_getElem hj] at hu
    simp only [Option.map_some, Option.some.injEq] at hu
    subst hu
    by_cases e : j = 0
    · subst e
      simpa [Addr.add] using this
    · simpa [Addr.add, e] using this
  · rw [List.getElem?_eq_none (by simpa using hj)] at hu
    cases hu
/-- Append of a row that may be nil. -/
theorem wp_app7 {P : Program} (w : World) {ops : Array Oper} {rest : List Oper} {o : Oper} {a : Act} {Q : Exit → Act → World → Prop} (hgd : o.guard = none) (s x : Operand) (t : TypeId)
    (ho : o.op = .call { callee := .builtin .append, args := #[s, x], argTypes := #[t, t] })
    (base : Nat) (e : TypeId) (i : TypeInfo) (z : Value) (size bytes : Nat) (ht : P.underlying t = some (.slice e)) (hi : P.info? e = some i) (hz : i.zero = some z)
    (hsize : i.size = size) (hby : i.bytes = bytes) (hzs : z.cells.size = size) (hsz : 0 < size)
    (v : Value) (n : Nat) (xs : List Value) (hs : a.eval s = v) (hown : w.ownsRow base e size v n xs)
    (ad : Option Addr) (m c : Nat) (news : List Value) (hx : a.eval x = .slice ad m c) (hnil : ad = none → m = 0 ∧ c = 0) (hl : news.length = m * size) (hnews : ∀ d, ad = some d → ∀ j u, news[j]? = some u → w.cell? (d.add j) = some u) (h1 : ∀ u ∈ news, u.oneCell' = true)
    (h63 : n + m ≤ maxLen) (hbytes : (n + m) * bytes ≤ 140737488355328) (hbase : base ≤ w.heap.size)
    (h : ∀ v' w', w'.ownsRow base e size v' (n + m) (xs ++ news) → w' = w ∨ w.grownBy w' v.ownBlock → wpList P ops Q rest (a.put o.dst v') w') : wpList P ops Q (o :: rest) a w := by
  cases ad with
  | none =>
    obtain ⟨rfl, rfl⟩ := hnil rfl
    have e0 : news = [] := List.eq_nil_of_length_eq_zero (by simpa using hl)
    subst e0
    exact wpList_append_own_none hgd s x t ho base e i size ht hi v n xs hs hown hx (h v w (by simpa using hown) (.inl rfl))
  | some d => exact wpList_append_own w hgd s x t ho base e i z size bytes ht hi hz hsize hby hzs hsz v n xs hs hown d m c news hx hl (hnews d rfl) h1 h63 hbytes hbase fun v' w' h2 h3 _ => h v' w' h2 (.inr h3)
theorem own_le8 {b m c k : Nat} (h : (Value.slice (some ⟨b, 0, none⟩) m c).ownBlock = some k) : b ≤ k := Nat.le_of_eq (by simpa [Value.ownBlock] using h)
set_option maxHeartbeats 1000000 in
theorem zclone_some (g cap q : Nat) (zs : List ZR) (w : World) (hq : zs.length = q) (q1 : q ≤ 4096) (hc : ∀ k (hk : k < zs.length), w.cell? ⟨g, k, none⟩ = some (pvF zs[k])) :
    Calls Tryz.prog 56 #[.slice (some ⟨g, 0, none⟩) q cap] w fun e w' => (∃ v, e = .returned v ∧ w'.ownsRow w.heap.size 41 1 v q (zs.map pvF)) ∧ Below w.heap.size w w' := by
  obtain ⟨i0, hi, hz0, hz1, hz2⟩ := info_parts info_zp
  have HC := hideD hc
  have HQ := hideD hq
  have he := Lib.run_eql_slice_some_nil (P := Tryz.prog) w (t := 30) ⟨g, 0, none⟩ q cap Tryz.underlying30
  clear hc hq
  go_enter Tryz.func56, Tryz.ntmps56
  go_wp2_with (at_builtin; refine wp_app7 _ rfl _ _ 30 rfl w.heap.size 41 i0 (.pointer none) 1 8 Tryz.underlying30 hi hz0 hz1 hz2 rfl (by decide) _ 0 [] rfl (World.ownsRow_lit w #[] 0 (Nat.le_refl _) (by decide) rfl) (some ⟨g, 0, none⟩) q cap (zs.map pvF) rfl (fun e => by cases e) (by simp [HQ.out]) (fun d e j u h => by injection e with e; subst e; exact cell_pvs (fun k hk => kc _ _ (below_one w _) (HC.out k hk)) j u h) (fun u hu => by obtain ⟨z, -, rfl⟩ := List.mem_map.1 hu; rfl) (by unfold maxLen; omega) (by omega) (by simp) ?_; intro v' w2 hown hgrow)
  have hb2 : Hid (Below w.heap.size w w2) := by
    rcases hgrow with e | hg
    · rw [e]; exact below_one _ _
    · exact (below_one w _).grown hg (by simp) (fun k hk => own_le8 hk)
  have hown' : Hid (w2.ownsRow w.heap.size 41 1 v' q (zs.map pvF)) := by
    have := hown
    rw [Nat.zero_add, List.nil_append] at this
    exact this
  clear hown hgrow
  go_ret
  exact ⟨⟨_, rfl, hown'.out⟩, hb2.out⟩
theorem zclone_none (w : World) : Calls Tryz.prog 56 #[.slice none 0 0] w fun e w' => e = .returned (.slice none 0 0) ∧ w' = w := by
  have he := Lib.run_eql_slice_nil_nil (P := Tryz.prog) w (t := 30) 0 0 Tryz.underlying30
  go_enter Tryz.func56, Tryz.ntmps56
  go_wp2_with fail
  go_ret
  exact ⟨rfl, rfl⟩
theorem owns_nil7 {w : World} {base q : Nat} {ad : Option Addr} {cap : Nat} {xs : List Value} (h : w.ownsRow base 41 1 (.slice ad q cap) q xs) (e : ad = none) : q = 0 ∧ cap = 0 ∧ xs = [] := by
  subst e
  rcases h.2 with ⟨e', q0⟩ | ⟨g, cp, cur, e', -⟩
  · injection e' with e1 e2 e3
    exact ⟨q0, e3, List.eq_nil_of_length_eq_zero (by rw [h.1, q0])⟩
  · injection e' with e1
    cases e1
theorem owns_some7 {w : World} {base q : Nat} {a : Addr} {cap : Nat} {zs : List ZR} (h : w.ownsRow base 41 1 (.slice (some a) q cap) zs.length (zs.map pvF)) : ∃ g, a = ⟨g, 0, none⟩ ∧ ∀ k (hk : k < zs.length), w.cell? ⟨g, k, none⟩ = some (pvF zs[k]) := by
  rcases h.2 with ⟨e', -⟩ | ⟨g, cp, cur, e', h2, h3, h4, h5, h6, h7⟩
  · cases e'
  · injection e' with e1
    injection e1 with e1
    subst e1
    refine ⟨g, rfl, fun k hk => ?_⟩
    have e : cur.toList[k]? = some (pvF zs[k]) := by
      have := congrArg (fun l => l[k]?) h7
      simp only [Nat.mul_one] at this
      rw [List.getElem?_take_of_lt hk] at this
      rw [this]
      simp [hk]
    have e' : cur[k]? = some (pvF zs[k]) := by simpa using e
    simp [World.cell?, h3, e']
/-- Zones are the call's own row. -/
theorem fzones_any (fb n m : Nat) (zs : List ZR) (w : World) (hf : FedAt w fb n m zs) :
    Calls Tryz.prog 25 #[.pointer (some ⟨fb, 0, none⟩)] w fun e w' => (∃ v, e = .returned v ∧ w'.ownsRow w.heap.size 41 1 v zs.length (zs.map pvF)) ∧ Below w.heap.size w w' := by
  obtain ⟨v, c1, hown⟩ := hf.c1
  obtain ⟨q, hq⟩ : ∃ q, zs.length = q := ⟨_, rfl⟩
  obtain ⟨ad, cap, rfl⟩ := own_sl hown
  cases ad with
  | none =>
    obtain ⟨h0, h1, h2⟩ := owns_nil7 hown rfl
    rw [h0, h1] at c1
    have HC := hideD (zclone_none w)
    have HO : Hid (w.ownsRow w.heap.size 41 1 (.slice none 0 0) zs.length (zs.map pvF)) := by
      rw [h0, h2]
      exact World.ownsRow_nil _ _ _ _
    clear hown hf hq h0 h1 h2
    go_enter Tryz.func25, Tryz.ntmps25
    go_wp2_with fail
    refine HC.out.mono ?_
    rintro e w1 ⟨rfl, e1⟩
    obtain rfl := e1.symm
    clear HC e1
    go_wp2_with fail
    go_ret
    exact ⟨⟨_, rfl, HO.out⟩, Below.refl _ _⟩
  | some a =>
    obtain ⟨g, rfl, hc⟩ := owns_some7 hown
    rw [hq] at c1 ⊢
    have HC := hideD (zclone_some g cap q zs w hq (by rw [← hq]; exact hf.len) hc)
    clear hown hf hq hc
    go_enter Tryz.func25, Tryz.ntmps25
    go_wp2_with fail
    refine HC.out.mono ?_
    rintro e w1 ⟨⟨v, rfl, h⟩, hb⟩
    have F := hideD (And.intro h hb)
    clear h hb HC
    go_wp2_with fail
    go_ret
    exact ⟨⟨_, rfl, F.out.1⟩, F.out.2⟩
end Go.Proofs.YtnfkmpickmonoaaGreat

/-
  fed.Plus.
-/
namespace Go.Proofs.YtnfkmpickmonoaaGreat
open Go.RowKit Go.Shelf
set_option linter.unusedVariables false
set_option maxRecDepth 100000
attribute [local go_sem] Oper.semAt_some
theorem step_own7 {P : Program} {ops : Array Oper} {o : Oper} {a : Act} {w : World} {K : Act → World → Prop} {Q : Exit → Act → World → Prop} {E : Prop} (hgd : o.guard = none) (s x : Operand) (t : TypeId)
    (ho : o.op = .call { callee := .builtin .append, args := #[s, x], argTypes := #[t, t] })
    (base : Nat) (e : TypeId) (i : TypeInfo) (z : Value) (size bytes : Nat) (ht : P.underlying t = some (.slice e)) (hi : P.info? e = some i) (hz : i.zero = some z)
    (hsize : i.size = size) (hby : i.bytes = bytes) (hzs : z.cells.size = size) (hsz : 0 < size)
    (v : Value) (n : Nat) (xs : List Value) (hs : a.eval s = v) (hown : w.ownsRow base e size v n xs)
    (ad : Addr) (m c : Nat) (news : List Value) (hx : a.eval x = .slice (some ad) m c) (hl : news.length = m * size) (hnews : ∀ j u, news[j]? = some u → w.cell? (ad.add j) = some u) (h1 : ∀ u ∈ news, u.oneCell' = true)
    (h63 : n + m ≤ maxLen) (hbytes : (n + m) * bytes ≤ 140737488355328) (hbase : base ≤ w.heap.size)
    (hK : ∀ v' w', w'.ownsRow base e size v' (n + m) (xs ++ news) → w.grownBy w' v.ownBlock → K (a.put o.dst v') w') :
    if Region.wanted o (yielded ops a.tmps) = true then Oper.wp P o a w K Q else E := by
  have hw : Region.wanted o (yielded ops a.tmps) = true := by simp [Region.wanted, hgd]
  rw [if_pos hw]
  exact wp_append_own w s x t ho base e i z size bytes ht hi hz hsize hby hzs hsz v n xs hs hown ad m c news hx hl hnews h1 h63 hbytes hbase fun v' w' h2 h3 _ => hK v' w' h2 h3
end Go.Proofs.YtnfkmpickmonoaaGreat

/-
  fed: unions by the document; Dim, Zones, Empty.
-/
namespace Go.Proofs.YtnfkmpickmonoaaGreat
open Go.RowKit Go.Shelf
set_option linter.unusedVariables false
set_option maxRecDepth 100000
attribute [local go_sem] Oper.semAt_some
/-- A zone of the document's: where it lies, and its cells. -/
abbrev RZR := Nat × List Int
def pvR7 (e : RZR) : Value := .pointer (some ⟨e.1, 0, none⟩)
/-- A union of the document's in memory. -/
structure RFedAt (w : World) (fb n m : Nat) (zs : List RZR) : Prop where
  c0 : w.cell? ⟨fb, 0, none⟩ = some (.int .i64 n)
  c1 : ∃ v, w.cell? ⟨fb, 1, none⟩ = some v ∧ w.ownsRow 0 44 1 v zs.length (zs.map pvR7)
  zones : ∀ e ∈ zs, RZone w 0 e.1 n e.2 ∧ e.2.length = m ∧ e.2.getD 0 0 = 1
  len : zs.length ≤ 4096
theorem own_slR {w : World} {base n : Nat} {v : Value} {xs : List Value} (h : w.ownsRow base 44 1 v n xs) : ∃ ad cap, v = .slice ad n cap := by
  rcases h.2 with ⟨rfl, rfl⟩ | ⟨g, cap, cur, rfl, -⟩
  · exact ⟨_, _, rfl⟩
  · exact ⟨_, _, rfl⟩
theorem rfempty_any (fb n m : Nat) (zs : List RZR) (w : World) (hf : RFedAt w fb n m zs) : Calls Tryz.prog 49 #[.pointer (some ⟨fb, 0, none⟩)] w fun e w' => e = .returned (.bool (decide (zs.length = 0))) ∧ w' = w := by
  obtain ⟨v, c1, hown⟩ := hf.c1
  obtain ⟨q, hq⟩ : ∃ q, zs.length = q := ⟨_, rfl⟩
  obtain ⟨ad, cap, rfl⟩ := own_slR hown
  rw [hq] at c1 ⊢
  obtain ⟨t, ht⟩ : ∃ t, ((q : Int) == 0) = t := ⟨_, rfl⟩
  have HT : Hid (decide (q = 0) = t) := by
    show _ = _
    rw [← ht]
    by_cases c : q = 0
    · subst c; rfl
    · have c' : ¬ (q : Int) = 0 := by omega
      simp [c]
  clear hf hown hq
  cases t with
  | true =>
    go_enter Tryz.func49, Tryz.ntmps49
    go_wp2_with fail
    go_ret
    exact ⟨by rw [HT.out]; rfl, rfl⟩
  | false =>
    go_enter Tryz.func49, Tryz.ntmps49
    go_wp2_with fail
    go_ret
    exact ⟨by rw [HT.out]; rfl, rfl⟩
end Go.Proofs.YtnfkmpickmonoaaGreat

/-
  fed: New by the document: its errors.
-/
namespace Go.Proofs.YtnfkmpickmonoaaGreat
open Go.RowKit Go.Shelf
set_option linter.unusedVariables false
set_option maxRecDepth 100000
attribute [local go_sem] Oper.semAt_some
abbrev RPZ7 := Option RZR
abbrev rptr7 (z : RPZ7) : Value := .pointer (z.map fun z => ⟨z.1, 0, none⟩)
/-- A row of the document's zones in memory. -/
structure RPRow (w : World) (ad : Option Addr) (n m : Nat) (ps : List RPZ7) : Prop where
  cell : ∀ k (hk : k < ps.length), ∃ g, ad = some ⟨g, 0, none⟩ ∧ w.cell? ⟨g, k, none⟩ = some (rptr7 ps[k])
  zones : ∀ z, some z ∈ ps → RZone w 0 z.1 n z.2 ∧ z.2.length = m
theorem RPRow.past {A B : World} (hb : Below A.heap.size A B) {ad : Option Addr} {n m : Nat} {ps : List RPZ7} (h : RPRow A ad n m ps) : RPRow B ad n m ps :=
  ⟨fun k hk => by
    obtain ⟨g, h1, h2⟩ := h.cell k hk
    exact ⟨g, h1, kc _ _ hb h2⟩, fun z hz => ⟨(h.zones z hz).1.past hb, (h.zones z hz).2⟩⟩
theorem rnew_clock (x : Int) (l : Value) (w : World) (hx : x < 0 ∨ 8 < x) : Calls Tryz.prog 8 #[.int .i64 x, l] w fun e w' => e = .returned (.tuple #[.pointer none, .int .i64 12]) ∧ w' = w := by
  by_cases c : x < 0
  · clear hx
    go_enter Tryz.func8, Tryz.ntmps8
    go_wp2_with fail
    refine bodyPost_ret (v := .tuple #[.pointer none, .int .i64 12]) (by simp [results, Tryz.results8, go_sem]) rfl ?_
    exact ⟨rfl, rfl⟩
  · have c8 : 8 < x := by omega
    clear hx
    go_enter Tryz.func8, Tryz.ntmps8
    go_wp2_with fail
    refine bodyPost_ret (v := .tuple #[.pointer none, .int .i64 12]) (by simp [results, Tryz.results8, go_sem]) rfl ?_
    exact ⟨rfl, rfl⟩
def rhasNil (ps : List RPZ7) : Bool := ps.any (·.isNone)
theorem rhasNil_out {ps : List RPZ7} (h : rhasNil ps = false) : ∀ p ∈ ps, p ≠ none := fun p hp e => by
  subst e
  have : rhasNil ps = true := List.any_eq_true.2 ⟨none, hp, rfl⟩
  rw [this] at h
  cases h
theorem rnew_nil (ad : Option Addr) (cap q n m : Nat) (ps : List RPZ7) (w : World) (hn : n ≤ 8) (hq : ps.length = q) (q1 : q ≤ 1000000000) (hV : RPRow w ad n m ps) (hN : rhasNil ps = true) :
    Calls Tryz.prog 8 #[.int .i64 (n : Int), .slice ad q cap] w fun e w' => e = .returned (.tuple #[.pointer none, .int .i64 1]) ∧ Below w.heap.size w w' := by
  have B1 := hideD (below_one w (.cells #[.int .i64 (n : Int), .slice none 0 0] 69))
  have HV := hideD (hV.past B1.out)
  have HQ := hideD hq
  have HN := hideD hN
  have n8 : (n : Int) ≤ 8 := by omega
  have n0 : ¬ (n : Int) < 0 := by omega
  have n9 : ¬ (8 : Int) < (n : Int) := by omega
  clear hV hq hN hn
  go_enter Tryz.func8, Tryz.ntmps8
  go_wp2_with fail
  go_loopw [7] (fun i wr => ∃ (K : Nat), K ≤ q ∧ i = .int .i64 (K : Int) ∧ Hid (∀ j (hj : j < ps.length), j < K → ps[j] ≠ none) ∧ Hid (wr = w.alloc (.cells #[.int .i64 (n : Int), .slice none 0 0] 69))) (fun i _ => q - (intOf i).toNat)
  case atStart => exact ⟨0, Nat.zero_le _, rfl, fun j _ h => by omega, rfl⟩
  case round =>
    obtain ⟨K, hK, rfl, O, B⟩ := hrel
    have eB := B.out
    subst eB
    by_cases ck : K < q
    · have hl : K < ps.length := by rw [HQ.out]; exact ck
      obtain ⟨b, rfl, c0⟩ := HV.out.cell K hl
      have k0 : (K : Int) < (q : Int) := by omega
      obtain ⟨z, hz⟩ : ∃ z, ps[K] = z := ⟨_, rfl⟩
      rw [hz] at c0
      cases z with
      | none =>
        simp only [rptr7, Option.map_none] at c0
        clear hz O B HV
        go_wp2_with fail
        refine bodyPost_ret (v := .tuple #[.pointer none, .int .i64 1]) (by simp [results, Tryz.results8, go_sem]) rfl ?_
        exact ⟨rfl, B1.out⟩
      | some z =>
        have O1 : Hid (∀ j (hj : j < ps.length), j < K + 1 → ps[j] ≠ none) := fun j hj h => by
          by_cases e : j = K
          · subst e
            rw [hz]
            simp
          · exact O.out j hj (by omega)
        simp only [rptr7, Option.map_some] at c0
        clear hz O B
        go_wp2_with fail
        go_roundw
        case rel => exact ⟨K + 1, by omega, by go_num, O1, by first | exact rfl | trivial⟩
        case measure => simp [intOf]; omega
    · exfalso
      have h := HN.out
      unfold rhasNil at h
      obtain ⟨p, hp, hp2⟩ := List.any_eq_true.1 h
      obtain ⟨j, hj, e⟩ := List.mem_iff_getElem.1 hp
      have h1 := O.out j hj (by have := HQ.out; omega)
      rw [e] at h1
      cases p with
      | none => exact h1 rfl
      | some z => cases hp2
end Go.Proofs.YtnfkmpickmonoaaGreat
