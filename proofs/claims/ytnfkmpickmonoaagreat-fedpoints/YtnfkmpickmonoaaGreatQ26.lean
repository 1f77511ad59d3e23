/-
  fed: Dim, Empty, Zones; New's errors.
-/
import Derived.Laws.AppendOwnNone
import Derived.Lib.BufferMore
import Derived.Test.YtnfkmpickmonoaaGreatQ25
namespace Go.Proofs.YtnfkmpickmonoaaGreat
open Go.RowKit Go.Shelf
set_option linter.unusedVariables false
set_option maxRecDepth 100000
attribute [local go_sem] Oper.semAt_some
theorem fdim_any (fb n : Nat) (w : World) (c0 : w.cell? ⟨fb, 0, none⟩ = some (.int .i64 (n : Int))) : Calls Tryz.prog 24 #[.pointer (some ⟨fb, 0, none⟩)] w fun e w' => e = .returned (.int .i64 (n : Int)) ∧ w' = w := by
  go_enter Tryz.func24, Tryz.ntmps24
  go_wp2_with fail
  go_ret
  exact ⟨rfl, rfl⟩
theorem fempty_any (fb n m : Nat) (zs : List ZR) (w : World) (hf : FedAt w fb n m zs) : Calls Tryz.prog 26 #[.pointer (some ⟨fb, 0, none⟩)] w fun e w' => e = .returned (.bool (decide (zs.length = 0))) ∧ w' = w := by
  obtain ⟨v, c1, hown⟩ := hf.c1
  obtain ⟨q, hq⟩ : ∃ q, zs.length = q := ⟨_, rfl⟩
  obtain ⟨ad, cap, rfl⟩ := own_sl hown
  rw [hq] at c1 ⊢
  have HL := hideD (long_any fb q cap ad w c1)
  obtain ⟨t, ht⟩ : ∃ t, ((q : Int) == 0) = t := ⟨_, rfl⟩
  have HT : Hid (decide (q = 0) = t) := by
    show _ = _
    rw [← ht]
    by_cases c : q = 0
    · subst c; rfl
    · have c' : ¬ (q : Int) = 0 := by omega
      simp [c]
  clear hf hown hq c1
  go_enter Tryz.func26, Tryz.ntmps26
  go_wp2_with fail
  refine HL.out.mono ?_
  rintro e w1 ⟨rfl, e1⟩
  obtain rfl := e1.symm
  clear HL e1
  cases t with
  | true =>
    go_wp2_with fail
    go_ret
    exact ⟨by rw [HT.out]; rfl, rfl⟩
  | false =>
    go_wp2_with fail
    go_ret
    exact ⟨by rw [HT.out]; rfl, rfl⟩
theorem new_clock (x : Int) (l : Value) (w : World) (hx : x < 0 ∨ 8 < x) : Calls Tryz.prog 7 #[.int .i64 x, l] w fun e w' => e = .returned (.tuple #[.pointer none, .int .i64 12]) ∧ Below w.heap.size w w' := by
  have B1 := hideD (below_one w (.cells #[.int .i64 x] 3))
  by_cases c : x < 0
  · clear hx
    go_enter Tryz.func7, Tryz.ntmps7
    go_wp2_with fail
    refine bodyPost_ret (v := .tuple #[.pointer none, .int .i64 12]) (by simp [results, Tryz.results7, go_sem]) rfl ?_
    exact ⟨rfl, B1.out⟩
  · have c8 : 8 < x := by omega
    clear hx
    go_enter Tryz.func7, Tryz.ntmps7
    go_wp2_with fail
    refine bodyPost_ret (v := .tuple #[.pointer none, .int .i64 12]) (by simp [results, Tryz.results7, go_sem]) rfl ?_
    exact ⟨rfl, B1.out⟩
theorem new_nil (ad : Option Addr) (cap q n m : Nat) (ps : List PZ7) (w : World) (hn : n ≤ 8) (hq : ps.length = q) (q1 : q ≤ 9223372036854775807) (hV : PRow w ad n m ps) (hN : hasNil ps = true) :
    Calls Tryz.prog 7 #[.int .i64 (n : Int), .slice ad q cap] w fun e w' => e = .returned (.tuple #[.pointer none, .int .i64 1]) ∧ Below w.heap.size w w' := by
  have B1 := below_one w (.cells #[.int .i64 (n : Int)] 3)
  have HC := hideD (containsNil_any ad cap q n m ps _ hq q1 (hV.past B1))
  rw [hN] at HC
  have HB := hideD B1
  have n8 : (n : Int) ≤ 8 := by omega
  have n0 : ¬ (n : Int) < 0 := by omega
  have n9 : ¬ (8 : Int) < (n : Int) := by omega
  clear hV hq hN hn B1
  go_enter Tryz.func7, Tryz.ntmps7
  go_wp2_with fail
  refine HC.out.mono ?_
  rintro e w1 ⟨rfl, e1⟩
  obtain rfl := e1.symm
  clear HC e1
  go_wp2_with fail
  refine bodyPost_ret (v := .tuple #[.pointer none, .int .i64 1]) (by simp [results, Tryz.results7, go_sem]) rfl ?_
  exact ⟨rfl, HB.out⟩
theorem cell_pvs {w : World} {zs : List ZR} {g : Nat} (h : ∀ k (hk : k < zs.length), w.cell? ⟨g, k, none⟩ = some (pvF zs[k])) (j : Nat) (u : Value) (hu : (zs.map pvF)[j]? = some u) : w.cell? ((⟨g, 0, none⟩ : Addr).add j) = some u := by
  by_cases hj : j < zs.length
  · have := h j hj
    rw [List.getElem?_map, List.getElem?_eq_getElem hj] at hu
    simp only [Option.map_some, Option.some.injEq] at hu
    subst hu
    by_cases e : j = 0
    · subst e
      simpa [Addr.add] using this
    · simpa [Addr.add, e] using this
  · rw [List.getElem?_eq_none (by simpa using hj)] at hu
    cases hu
/-- Append of a row that may be nil. -/
theorem wp_app7 {P : Program} (w : World) {ops : Array Oper} {rest : List Oper} {o : Oper} {a : Act} {Q : Exit → Act → World → Prop} (hgd : o.guard = none) (s x : Operand) (t : TypeId)
    (ho : o.op = .call { callee := .builtin .append, args := #[s, x], argTypes := #[t, t] })
    (base : Nat) (e : TypeId) (i : TypeInfo) (z : Value) (size bytes : Nat) (ht : P.underlying t = some (.slice e)) (hi : P.info? e = some i) (hz : i.zero = some z)
    (hsize : i.size = size) (hby : i.bytes = bytes) (hzs : z.cells.size = size) (hsz : 0 < size)
    (v : Value) (n : Nat) (xs : List Value) (hs : a.eval s = v) (hown : w.ownsRow base e size v n xs)
    (ad : Option Addr) (m c : Nat) (news : List Value) (hx : a.eval x = .slice ad m c) (hnil : ad = none → m = 0 ∧ c = 0) (hl : news.length = m * size) (hnews : ∀ d, ad = some d → ∀ j u, news[j]? = some u → w.cell? (d.add j) = some u) (h1 : ∀ u ∈ news, u.oneCell' = true)
    (h63 : n + m ≤ maxLen) (hbytes : (n + m) * bytes ≤ 140737488355328) (hbase : base ≤ w.heap.size)
    (h : ∀ v' w', w'.ownsRow base e size v' (n + m) (xs ++ news) → w' = w ∨ w.grownBy w' v.ownBlock → wpList P ops Q rest (a.put o.dst v') w') : wpList P ops Q (o :: rest) a w := by
  cases ad with
  | none =>
    obtain ⟨rfl, rfl⟩ := hnil rfl
    have e0 : news = [] := List.eq_nil_of_length_eq_zero (by simpa using hl)
    subst e0
    exact wpList_append_own_none hgd s x t ho base e i size ht hi v n xs hs hown hx (h v w (by simpa using hown) (.inl rfl))
  | some d => exact wpList_append_own w hgd s x t ho base e i z size bytes ht hi hz hsize hby hzs hsz v n xs hs hown d m c news hx hl (hnews d rfl) h1 h63 hbytes hbase fun v' w' h2 h3 _ => h v' w' h2 (.inr h3)
theorem own_le8 {b m c k : Nat} (h : (Value.slice (some ⟨b, 0, none⟩) m c).ownBlock = some k) : b ≤ k := Nat.le_of_eq (by simpa [Value.ownBlock] using h)
set_option maxHeartbeats 1000000 in
theorem zclone_some (g cap q : Nat) (zs : List ZR) (w : World) (hq : zs.length = q) (q1 : q ≤ 4096) (hc : ∀ k (hk : k < zs.length), w.cell? ⟨g, k, none⟩ = some (pvF zs[k])) :
    Calls Tryz.prog 56 #[.slice (some ⟨g, 0, none⟩) q cap] w fun e w' => (∃ v, e = .returned v ∧ w'.ownsRow w.heap.size 41 1 v q (zs.map pvF)) ∧ Below w.heap.size w w' := by
  obtain ⟨i0, hi, hz0, hz1, hz2⟩ := info_parts info_zp
  have HC := hideD hc
  have HQ := hideD hq
  have he := Lib.run_eql_slice_some_nil (P := Tryz.prog) w (t := 30) ⟨g, 0, none⟩ q cap Tryz.underlying30
  clear hc hq
  go_enter Tryz.func56, Tryz.ntmps56
  go_wp2_with (at_builtin; refine wp_app7 _ rfl _ _ 30 rfl w.heap.size 41 i0 (.pointer none) 1 8 Tryz.underlying30 hi hz0 hz1 hz2 rfl (by decide) _ 0 [] rfl (World.ownsRow_lit w #[] 0 (Nat.le_refl _) (by decide) rfl) (some ⟨g, 0, none⟩) q cap (zs.map pvF) rfl (fun e => by cases e) (by simp [HQ.out]) (fun d e j u h => by injection e with e; subst e; exact cell_pvs (fun k hk => kc _ _ (below_one w _) (HC.out k hk)) j u h) (fun u hu => by obtain ⟨z, -, rfl⟩ := List.mem_map.1 hu; rfl) (by unfold maxLen; omega) (by omega) (by simp) ?_; intro v' w2 hown hgrow)
  have hb2 : Hid (Below w.heap.size w w2) := by
    rcases hgrow with e | hg
    · rw [e]; exact below_one _ _
    · exact (below_one w _).grown hg (by simp) (fun k hk => own_le8 hk)
  have hown' : Hid (w2.ownsRow w.heap.size 41 1 v' q (zs.map pvF)) := by
    have := hown
    rw [Nat.zero_add, List.nil_append] at this
    exact this
  clear hown hgrow
  go_ret
  exact ⟨⟨_, rfl, hown'.out⟩, hb2.out⟩
theorem zclone_none (w : World) : Calls Tryz.prog 56 #[.slice none 0 0] w fun e w' => e = .returned (.slice none 0 0) ∧ w' = w := by
  have he := Lib.run_eql_slice_nil_nil (P := Tryz.prog) w (t := 30) 0 0 Tryz.underlying30
  go_enter Tryz.func56, Tryz.ntmps56
  go_wp2_with fail
  go_ret
  exact ⟨rfl, rfl⟩
theorem owns_nil7 {w : World} {base q : Nat} {ad : Option Addr} {cap : Nat} {xs : List Value} (h : w.ownsRow base 41 1 (.slice ad q cap) q xs) (e : ad = none) : q = 0 ∧ cap = 0 ∧ xs = [] := by
  subst e
  rcases h.2 with ⟨e', q0⟩ | ⟨g, cp, cur, e', -⟩
  · injection e' with e1 e2 e3
    exact ⟨q0, e3, List.eq_nil_of_length_eq_zero (by rw [h.1, q0])⟩
  · injection e' with e1
    cases e1
theorem owns_some7 {w : World} {base q : Nat} {a : Addr} {cap : Nat} {zs : List ZR} (h : w.ownsRow base 41 1 (.slice (some a) q cap) zs.length (zs.map pvF)) : ∃ g, a = ⟨g, 0, none⟩ ∧ ∀ k (hk : k < zs.length), w.cell? ⟨g, k, none⟩ = some (pvF zs[k]) := by
  rcases h.2 with ⟨e', -⟩ | ⟨g, cp, cur, e', h2, h3, h4, h5, h6, h7⟩
  · cases e'
  · injection e' with e1
    injection e1 with e1
    subst e1
    refine ⟨g, rfl, fun k hk => ?_⟩
    have e : cur.toList[k]? = some (pvF zs[k]) := by
      have := congrArg (fun l => l[k]?) h7
      simp only [Nat.mul_one] at this
      rw [List.getElem?_take_of_lt hk] at this
      rw [this]
      simp [hk]
    have e' : cur[k]? = some (pvF zs[k]) := by simpa using e
    simp [World.cell?, h3, e']
/-- Zones are the call's own row. -/
theorem fzones_any (fb n m : Nat) (zs : List ZR) (w : World) (hf : FedAt w fb n m zs) :
    Calls Tryz.prog 25 #[.pointer (some ⟨fb, 0, none⟩)] w fun e w' => (∃ v, e = .returned v ∧ w'.ownsRow w.heap.size 41 1 v zs.length (zs.map pvF)) ∧ Below w.heap.size w w' := by
  obtain ⟨v, c1, hown⟩ := hf.c1
  obtain ⟨q, hq⟩ : ∃ q, zs.length = q := ⟨_, rfl⟩
  obtain ⟨ad, cap, rfl⟩ := own_sl hown
  cases ad with
  | none =>
    obtain ⟨h0, h1, h2⟩ := owns_nil7 hown rfl
    rw [h0, h1] at c1
    have HC := hideD (zclone_none w)
    have HO : Hid (w.ownsRow w.heap.size 41 1 (.slice none 0 0) zs.length (zs.map pvF)) := by
      rw [h0, h2]
      exact World.ownsRow_nil _ _ _ _
    clear hown hf hq h0 h1 h2
    go_enter Tryz.func25, Tryz.ntmps25
    go_wp2_with fail
    refine HC.out.mono ?_
    rintro e w1 ⟨rfl, e1⟩
    obtain rfl := e1.symm
    clear HC e1
    go_wp2_with fail
    go_ret
    exact ⟨⟨_, rfl, HO.out⟩, Below.refl _ _⟩
  | some a =>
    obtain ⟨g, rfl, hc⟩ := owns_some7 hown
    rw [hq] at c1 ⊢
    have HC := hideD (zclone_some g cap q zs w hq (by rw [← hq]; exact hf.len) hc)
    clear hown hf hq hc
    go_enter Tryz.func25, Tryz.ntmps25
    go_wp2_with fail
    refine HC.out.mono ?_
    rintro e w1 ⟨⟨v, rfl, h⟩, hb⟩
    have F := hideD (And.intro h hb)
    clear h hb HC
    go_wp2_with fail
    go_ret
    exact ⟨⟨_, rfl, F.out.1⟩, F.out.2⟩
end Go.Proofs.YtnfkmpickmonoaaGreat
