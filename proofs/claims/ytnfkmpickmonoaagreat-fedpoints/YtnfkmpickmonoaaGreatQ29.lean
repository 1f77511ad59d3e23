/-
  fed.Plus.
-/
import Derived.OrdersHeld
import Derived.Deep.RegionHeld
import Derived.Test.YtnfkmpickmonoaaGreatQ28
import Derived.Test.YtnfkmpickmonoaaGreatQ17
namespace Go.Proofs.YtnfkmpickmonoaaGreat
open Go.RowKit Go.Shelf
set_option linter.unusedVariables false
set_option maxRecDepth 100000
attribute [local go_sem] Oper.semAt_some
theorem step_own7 {P : Program} {ops : Array Oper} {o : Oper} {a : Act} {w : World} {K : Act → World → Prop} {Q : Exit → Act → World → Prop} {E : Prop} (hgd : o.guard = none) (s x : Operand) (t : TypeId)
    (ho : o.op = .call { callee := .builtin .append, args := #[s, x], argTypes := #[t, t] })
    (base : Nat) (e : TypeId) (i : TypeInfo) (z : Value) (size bytes : Nat) (ht : P.underlying t = some (.slice e)) (hi : P.info? e = some i) (hz : i.zero = some z)
    (hsize : i.size = size) (hby : i.bytes = bytes) (hzs : z.cells.size = size) (hsz : 0 < size)
    (v : Value) (n : Nat) (xs : List Value) (hs : a.eval s = v) (hown : w.ownsRow base e size v n xs)
    (ad : Addr) (m c : Nat) (news : List Value) (hx : a.eval x = .slice (some ad) m c) (hl : news.length = m * size) (hnews : ∀ j u, news[j]? = some u → w.cell? (ad.add j) = some u) (h1 : ∀ u ∈ news, u.oneCell' = true)
    (h63 : n + m ≤ maxLen) (hbytes : (n + m) * bytes ≤ 140737488355328) (hbase : base ≤ w.heap.size)
    (hK : ∀ v' w', w'.ownsRow base e size v' (n + m) (xs ++ news) → w.grownBy w' v.ownBlock → K (a.put o.dst v') w') :
    if Region.wanted o (yielded ops a.tmps) = true then Oper.wp P o a w K Q else E := by
  have hw : Region.wanted o (yielded ops a.tmps) = true := by simp [Region.wanted, hgd]
  rw [if_pos hw]
  exact wp_append_own w s x t ho base e i z size bytes ht hi hz hsize hby hzs hsz v n xs hs hown ad m c news hx hl hnews h1 h63 hbytes hbase fun v' w' h2 h3 _ => hK v' w' h2 h3
theorem prow_of {W : World} {base n m g cap : Nat} {zs : List ZR} {ps : List PZ7} (h : W.ownsRow base 41 1 (.slice (some ⟨g, 0, none⟩) (zs.length + ps.length) cap) (zs.length + ps.length) (zs.map pvF ++ ps.map ptr7)) (hz : ∀ z, some z ∈ zs.map some ++ ps → ZoneAt W z.1 n z.2 ∧ ZC n m z.2) : PRow W (some ⟨g, 0, none⟩) n m (zs.map some ++ ps) := by
  refine ⟨fun k hk => ⟨g, rfl, ?_⟩, hz⟩
  have el : (zs.map some ++ ps).map ptr7 = zs.map pvF ++ ps.map ptr7 := by
    rw [List.map_append, List.map_map]
    rfl
  rcases h.2 with ⟨e', -⟩ | ⟨g', cp, cur, e', h2, h3, h4, h5, h6, h7⟩
  · cases e'
  · injection e' with e1
    injection e1 with e1
    injection e1 with e1
    subst e1
    have hk' : k < zs.length + ps.length := by simpa using hk
    have e : cur.toList[k]? = some (ptr7 (zs.map some ++ ps)[k]) := by
      have := congrArg (fun l => l[k]?) h7
      simp only [Nat.mul_one] at this
      rw [List.getElem?_take_of_lt hk'] at this
      rw [this, ← el, List.getElem?_map, List.getElem?_eq_getElem hk]
      rfl
    have e' : cur[k]? = some (ptr7 (zs.map some ++ ps)[k]) := by simpa using e
    simp [World.cell?, h3, e']
set_option maxHeartbeats 4000000 in
theorem fplus_any (fb n m gl cl : Nat) (zs : List ZR) (ps : List PZ7) (R : Value → Value → World → Prop) (w : World) (hf : FedAt w fb n m zs) (hl : PRow w (some ⟨gl, 0, none⟩) n m ps) (hp0 : 0 < ps.length) (hp : ps.length ≤ 100)
    (hN : ∀ (W : World) (g cap : Nat), Below w.heap.size w W → PRow W (some ⟨g, 0, none⟩) n m (zs.map some ++ ps) → Calls Tryz.prog 7 #[.int .i64 (n : Int), .slice (some ⟨g, 0, none⟩) (zs.length + ps.length) cap] W fun e w' => (∃ p x, e = .returned (.tuple #[p, x]) ∧ R p x w') ∧ Below W.heap.size W w') :
    Calls Tryz.prog 19 #[.pointer (some ⟨fb, 0, none⟩), .slice (some ⟨gl, 0, none⟩) ps.length cl] w fun e w' => (∃ p x, e = .returned (.tuple #[p, x]) ∧ R p x w') ∧ Below w.heap.size w w' := by
  obtain ⟨i0, hi, hz0, hz1, hz2⟩ := info_parts info_zp
  have bd : Below w.heap.size w w.drew := (Below.refl w.heap.size w).drew
  have HZ := hideD (fzones_any fb n m zs w.drew (hf.past bd))
  have HL := hideD hl
  have HF := hideD hf
  have HN := hideD hN
  have c0 := hf.c0
  have q4 := hf.len
  have BD := hideD bd
  obtain ⟨q, hq⟩ : ∃ q, ps.length = q := ⟨_, rfl⟩
  have HQ := hideD hq
  rw [hq] at hp0 hp ⊢
  clear hf hl hN bd hq
  have S0 : Hid (w.drew.cell? ⟨fb, 0, none⟩ = some (.int .i64 (n : Int))) := c0
  clear c0
  go_enter Tryz.func19, Tryz.ntmps19
  go_wp2_with fail
  refine wp_region_held (S := fun w' => w'.cell? ⟨fb, 0, none⟩ = some (.int .i64 (n : Int))) (by kernel_rfl) ?_
  have hHeld : w.drew.cell? ⟨fb, 0, none⟩ = some (.int .i64 (n : Int)) := S0.out
  refine wpAnyH_take (i := 0) (oi := ⟨_, _, _, _, _, _⟩) (v := ?_) rfl (by kernel_rfl) (by kernel_rfl) (by kernel_rfl) (fun _ _ _ h => h) (Or.inl ⟨by rfl, ?_⟩) (by assumption) ?_
  rotate_left
  · intro w hs1; (try dsimp only at hs1); first | (go_simp; done) | (go_simp; with_reducible rfl)
  try simp only [Act.put, List.setIfInBounds_toArray, List.set_cons_zero, List.set_cons_succ]
  refine wpAnyH_take (i := 1) (oi := ⟨_, _, _, _, _, _⟩) (v := ?_) rfl (by kernel_rfl) (by kernel_rfl) (by kernel_rfl) (fun _ _ _ h => h) (Or.inl ⟨by rfl, ?_⟩) (by assumption) ?_
  rotate_left
  · intro w hs1; (try dsimp only at hs1); first | (go_simp; done) | (go_simp; with_reducible rfl)
  try simp only [Act.put, List.setIfInBounds_toArray, List.set_cons_zero, List.set_cons_succ]
  refine wpAnyH_take (i := 2) (oi := ⟨_, _, _, _, _, _⟩) (v := ?_) rfl (by kernel_rfl) (by kernel_rfl) (by kernel_rfl) (fun _ _ _ h => h) (Or.inl ⟨by rfl, ?_⟩) (by assumption) ?_
  rotate_left
  · intro w hs1; (try dsimp only at hs1); first | (go_simp; done) | (go_simp; with_reducible rfl)
  try simp only [Act.put, List.setIfInBounds_toArray, List.set_cons_zero, List.set_cons_succ]
  refine wpAnyH_take (i := 3) (oi := ⟨_, _, _, _, _, _⟩) (v := ?_) rfl (by kernel_rfl) (by kernel_rfl) (by kernel_rfl) (fun _ _ _ h => h) (Or.inl ⟨by rfl, ?_⟩) (by assumption) ?_
  rotate_left
  · intro w hs1; (try dsimp only at hs1); first | (go_simp; done) | (go_simp; with_reducible rfl)
  try simp only [Act.put, List.setIfInBounds_toArray, List.set_cons_zero, List.set_cons_succ]
  refine wpAnyH_take (i := 4) (oi := ⟨_, _, _, _, _, _⟩) (v := ?_) rfl (by kernel_rfl) (by kernel_rfl) (by kernel_rfl) (fun _ _ _ h => h) (Or.inl ⟨by rfl, ?_⟩) (by assumption) ?_
  rotate_left
  · intro w hs1; (try dsimp only at hs1); first | (go_simp; done) | (go_simp; with_reducible rfl)
  try simp only [Act.put, List.setIfInBounds_toArray, List.set_cons_zero, List.set_cons_succ]
  refine wpAnyH_take (i := 5) (oi := ⟨_, _, _, _, _, _⟩) (v := ?_) rfl (by kernel_rfl) (by kernel_rfl) (by kernel_rfl) (fun _ _ _ h => h) (Or.inl ⟨by rfl, ?_⟩) (by assumption) ?_
  rotate_left
  · intro w hs1; (try dsimp only at hs1); first | (go_simp; done) | (go_simp; with_reducible rfl)
  try simp only [Act.put, List.setIfInBounds_toArray, List.set_cons_zero, List.set_cons_succ]
  refine wpAnyH_take (i := 7) (oi := ⟨_, _, _, _, _, _⟩) (v := ?_) rfl (by kernel_rfl) (by kernel_rfl) (by kernel_rfl) (fun _ _ _ h => h) (Or.inl ⟨by rfl, ?_⟩) (by assumption) ?_
  rotate_left
  · intro w hs1; (try dsimp only at hs1); first | (go_simp; done) | (go_simp; with_reducible rfl)
  try simp only [Act.put, List.setIfInBounds_toArray, List.set_cons_zero, List.set_cons_succ]
  refine wpAnyH_ready (rs := [6]) (by kernel_rfl) (by simp) ?_
  refine AllReadyH.cons (o := ⟨_, _, _, _, _, _⟩) rfl (fun KK hK => ?_) AllReadyH.nil
  go_simp
  refine HZ.out.mono ?_
  rintro e W1 ⟨⟨v, rfl, hown⟩, hb1⟩
  have S1 : Hid (W1.cell? ⟨fb, 0, none⟩ = some (.int .i64 (n : Int))) := kc _ _ hb1 S0.out
  have B1 := hideD (BD.out.trans hb1)
  have OW := hideD hown
  clear hown hb1 HZ hHeld
  refine hK.out _ _ S1.out (fun hHeld => ?_)
  clear hK KK
  try simp only [Act.put, List.setIfInBounds_toArray, List.set_cons_zero, List.set_cons_succ]
  refine wpAnyH_ready (rs := [8]) (by kernel_rfl) (by simp) ?_
  refine AllReadyH.cons (o := ⟨_, _, _, _, _, _⟩) rfl (fun KK hK => ?_) AllReadyH.nil
  refine step_own7 rfl (.tmp 14) (.tmp 15) 30 rfl w.heap.size 41 i0 (.pointer none) 1 8 Tryz.underlying30 hi hz0 hz1 hz2 rfl (by decide) v zs.length (zs.map pvF) (by simp [Act.eval]) OW.out ⟨gl, 0, none⟩ q cl (ps.map ptr7) (by simp [Act.eval]) (by simp [HQ.out]) (fun j u hu => ?_) (fun u hu => by obtain ⟨z, -, rfl⟩ := List.mem_map.1 hu; rfl) (by unfold maxLen; omega) (by omega) (by have := B1.out.size; omega) ?_
  · have hj : j < ps.length := by
      by_cases c : j < ps.length
      · exact c
      · rw [List.getElem?_eq_none (by simpa using c)] at hu
        cases hu
    obtain ⟨g', e1, h⟩ := (HL.out.past B1.out).cell j hj
    injection e1 with e1
    injection e1 with e1
    subst e1
    rw [List.getElem?_map, List.getElem?_eq_getElem hj] at hu
    simp only [Option.map_some, Option.some.injEq] at hu
    subst hu
    by_cases e : j = 0
    · subst e
      simpa [Addr.add] using h
    · simpa [Addr.add, e] using h
  · intro v' W2 hown2 hgrow
    have b2 : Below w.heap.size w W2 := B1.out.grown hgrow B1.out.size (fun k hk => by
      rcases OW.out.2 with ⟨q0, -⟩ | ⟨g0, cp, cur, h1, h2, -⟩
      · rw [q0] at hk; cases hk
      · rw [h1] at hk
        injection hk with hk
        subst hk
        exact h2)
    have HG : ∃ g2 cap', v' = .slice (some ⟨g2, 0, none⟩) (zs.length + q) cap' := by
      rcases hown2.2 with ⟨-, q0⟩ | ⟨g0, cp, cur, h1, -⟩
      · omega
      · exact ⟨g0, cp, h1⟩
    obtain ⟨g2, cap', rfl⟩ := HG
    rw [← HQ.out] at hown2
    have PR := prow_of (m := m) (n := n) hown2 (fun z hz => by
      rcases List.mem_append.1 hz with h | h
      · obtain ⟨z', hz', e⟩ := List.mem_map.1 h
        injection e with e
        subst e
        exact ⟨(HF.out.zones _ hz').1.past b2, (HF.out.zones _ hz').2.1⟩
      · exact ⟨(HL.out.zones z h).1.past b2, (HL.out.zones z h).2⟩)
    have HNN := hideD (HN.out W2 g2 cap' b2 PR)
    rw [HQ.out] at HNN
    have S2 : Hid (W2.cell? ⟨fb, 0, none⟩ = some (.int .i64 (n : Int))) := kc _ _ b2 (show w.cell? ⟨fb, 0, none⟩ = some (.int .i64 (n : Int)) from S0.out)
    have B2 := hideD b2
    clear hown2 hgrow b2 PR
    refine hK.out _ _ S2.out (fun hHeld => ?_)
    clear hK KK
    try simp only [Act.put, List.setIfInBounds_toArray, List.set_cons_zero, List.set_cons_succ]
    refine wpAnyH_ready (rs := [9]) (by kernel_rfl) (by simp) ?_
    refine AllReadyH.cons (o := ⟨_, _, _, _, _, _⟩) rfl (fun KK hK => ?_) AllReadyH.nil
    go_simp
    refine HNN.out.mono ?_
    rintro e W3 ⟨⟨p, x, rfl, hR⟩, hb3⟩
    have S3 : Hid (W3.cell? ⟨fb, 0, none⟩ = some (.int .i64 (n : Int))) := kc _ _ hb3 S2.out
    have B3 := hideD (B2.out.trans (hb3.mono B2.out.size))
    have HR := hideD hR
    clear hb3 hR HNN
    refine hK.out _ _ S3.out (fun hHeld => ?_)
    clear hK KK
    try simp only [Act.put, List.setIfInBounds_toArray, List.set_cons_zero, List.set_cons_succ]
    refine wpAnyH_take (i := 10) (oi := ⟨_, _, _, _, _, _⟩) (v := ?_) rfl (by kernel_rfl) (by kernel_rfl) (by kernel_rfl) (fun _ _ _ h => h) (Or.inl ⟨by rfl, ?_⟩) (by assumption) ?_
    rotate_left
    · intro w hs1; (try dsimp only at hs1); first | (go_simp; done) | (go_simp; with_reducible rfl)
    try simp only [Act.put, List.setIfInBounds_toArray, List.set_cons_zero, List.set_cons_succ]
    refine wpAnyH_take (i := 11) (oi := ⟨_, _, _, _, _, _⟩) (v := ?_) rfl (by kernel_rfl) (by kernel_rfl) (by kernel_rfl) (fun _ _ _ h => h) (Or.inl ⟨by rfl, ?_⟩) (by assumption) ?_
    rotate_left
    · intro w hs1; (try dsimp only at hs1); first | (go_simp; done) | (go_simp; with_reducible rfl)
    try simp only [Act.put, List.setIfInBounds_toArray, List.set_cons_zero, List.set_cons_succ]
    refine wpAnyH_take (i := 12) (oi := ⟨_, _, _, _, _, _⟩) (v := ?_) rfl (by kernel_rfl) (by kernel_rfl) (by kernel_rfl) (fun _ _ _ h => h) (Or.inl ⟨by rfl, ?_⟩) (by assumption) ?_
    rotate_left
    · intro w hs1; (try dsimp only at hs1); first | (go_simp; done) | (go_simp; with_reducible rfl)
    try simp only [Act.put, List.setIfInBounds_toArray, List.set_cons_zero, List.set_cons_succ]
    refine wpAnyH_take (i := 13) (oi := ⟨_, _, _, _, _, _⟩) (v := ?_) rfl (by kernel_rfl) (by kernel_rfl) (by kernel_rfl) (fun _ _ _ h => h) (Or.inl ⟨by rfl, ?_⟩) (by assumption) ?_
    rotate_left
    · intro w hs1; (try dsimp only at hs1); first | (go_simp; done) | (go_simp; with_reducible rfl)
    try simp only [Act.put, List.setIfInBounds_toArray, List.set_cons_zero, List.set_cons_succ]
    refine wpAnyH_done (by kernel_rfl) ?_ _
    go_wp2_with fail
    refine bodyPost_ret (v := .tuple #[p, x]) (by simp [results, Tryz.results19, go_sem]) rfl ?_
    exact ⟨⟨p, x, rfl, HR.out⟩, B3.out⟩
end Go.Proofs.YtnfkmpickmonoaaGreat

/-
  fed: unions by the document; Dim, Zones, Empty.
-/
namespace Go.Proofs.YtnfkmpickmonoaaGreat
open Go.RowKit Go.Shelf
set_option linter.unusedVariables false
set_option maxRecDepth 100000
attribute [local go_sem] Oper.semAt_some
/-- A zone of the document's: where it lies, and its cells. -/
abbrev RZR := Nat × List Int
def pvR7 (e : RZR) : Value := .pointer (some ⟨e.1, 0, none⟩)
/-- A union of the document's in memory. -/
structure RFedAt (w : World) (fb n m : Nat) (zs : List RZR) : Prop where
  c0 : w.cell? ⟨fb, 0, none⟩ = some (.int .i64 n)
  c1 : ∃ v, w.cell? ⟨fb, 1, none⟩ = some v ∧ w.ownsRow 0 44 1 v zs.length (zs.map pvR7)
  zones : ∀ e ∈ zs, RZone w 0 e.1 n e.2 ∧ e.2.length = m ∧ e.2.getD 0 0 = 1
  len : zs.length ≤ 4096
theorem own_slR {w : World} {base n : Nat} {v : Value} {xs : List Value} (h : w.ownsRow base 44 1 v n xs) : ∃ ad cap, v = .slice ad n cap := by
  rcases h.2 with ⟨rfl, rfl⟩ | ⟨g, cap, cur, rfl, -⟩
  · exact ⟨_, _, rfl⟩
  · exact ⟨_, _, rfl⟩
end Go.Proofs.YtnfkmpickmonoaaGreat

/-
  fed: New by the document: its errors.
-/
namespace Go.Proofs.YtnfkmpickmonoaaGreat
open Go.RowKit Go.Shelf
set_option linter.unusedVariables false
set_option maxRecDepth 100000
attribute [local go_sem] Oper.semAt_some
abbrev RPZ7 := Option RZR
abbrev rptr7 (z : RPZ7) : Value := .pointer (z.map fun z => ⟨z.1, 0, none⟩)
/-- A row of the document's zones in memory. -/
structure RPRow (w : World) (ad : Option Addr) (n m : Nat) (ps : List RPZ7) : Prop where
  cell : ∀ k (hk : k < ps.length), ∃ g, ad = some ⟨g, 0, none⟩ ∧ w.cell? ⟨g, k, none⟩ = some (rptr7 ps[k])
  zones : ∀ z, some z ∈ ps → RZone w 0 z.1 n z.2 ∧ z.2.length = m
theorem RPRow.past {A B : World} (hb : Below A.heap.size A B) {ad : Option Addr} {n m : Nat} {ps : List RPZ7} (h : RPRow A ad n m ps) : RPRow B ad n m ps :=
  ⟨fun k hk => by
    obtain ⟨g, h1, h2⟩ := h.cell k hk
    exact ⟨g, h1, kc _ _ hb h2⟩, fun z hz => ⟨(h.zones z hz).1.past hb, (h.zones z hz).2⟩⟩
theorem rnew_clock (x : Int) (l : Value) (w : World) (hx : x < 0 ∨ 8 < x) : Calls Tryz.prog 8 #[.int .i64 x, l] w fun e w' => e = .returned (.tuple #[.pointer none, .int .i64 12]) ∧ w' = w := by
  by_cases c : x < 0
  · clear hx
    go_enter Tryz.func8, Tryz.ntmps8
    go_wp2_with fail
    refine bodyPost_ret (v := .tuple #[.pointer none, .int .i64 12]) (by simp [results, Tryz.results8, go_sem]) rfl ?_
    exact ⟨rfl, rfl⟩
  · have c8 : 8 < x := by omega
    clear hx
    go_enter Tryz.func8, Tryz.ntmps8
    go_wp2_with fail
    refine bodyPost_ret (v := .tuple #[.pointer none, .int .i64 12]) (by simp [results, Tryz.results8, go_sem]) rfl ?_
    exact ⟨rfl, rfl⟩
def rhasNil (ps : List RPZ7) : Bool := ps.any (·.isNone)
theorem rhasNil_out {ps : List RPZ7} (h : rhasNil ps = false) : ∀ p ∈ ps, p ≠ none := fun p hp e => by
  subst e
  have : rhasNil ps = true := List.any_eq_true.2 ⟨none, hp, rfl⟩
  rw [this] at h
  cases h
theorem rnew_nil (ad : Option Addr) (cap q n m : Nat) (ps : List RPZ7) (w : World) (hn : n ≤ 8) (hq : ps.length = q) (q1 : q ≤ 1000000000) (hV : RPRow w ad n m ps) (hN : rhasNil ps = true) :
    Calls Tryz.prog 8 #[.int .i64 (n : Int), .slice ad q cap] w fun e w' => e = .returned (.tuple #[.pointer none, .int .i64 1]) ∧ Below w.heap.size w w' := by
  have B1 := hideD (below_one w (.cells #[.int .i64 (n : Int), .slice none 0 0] 69))
  have HV := hideD (hV.past B1.out)
  have HQ := hideD hq
  have HN := hideD hN
  have n8 : (n : Int) ≤ 8 := by omega
  have n0 : ¬ (n : Int) < 0 := by omega
  have n9 : ¬ (8 : Int) < (n : Int) := by omega
  clear hV hq hN hn
  go_enter Tryz.func8, Tryz.ntmps8
  go_wp2_with fail
  go_loopw [7] (fun i wr => ∃ (K : Nat), K ≤ q ∧ i = .int .i64 (K : Int) ∧ Hid (∀ j (hj : j < ps.length), j < K → ps[j] ≠ none) ∧ Hid (wr = w.alloc (.cells #[.int .i64 (n : Int), .slice none 0 0] 69))) (fun i _ => q - (intOf i).toNat)
  case atStart => exact ⟨0, Nat.zero_le _, rfl, fun j _ h => by omega, rfl⟩
  case round =>
    obtain ⟨K, hK, rfl, O, B⟩ := hrel
    have eB := B.out
    subst eB
    by_cases ck : K < q
    · have hl : K < ps.length := by rw [HQ.out]; exact ck
      obtain ⟨b, rfl, c0⟩ := HV.out.cell K hl
      have k0 : (K : Int) < (q : Int) := by omega
      obtain ⟨z, hz⟩ : ∃ z, ps[K] = z := ⟨_, rfl⟩
      rw [hz] at c0
      cases z with
      | none =>
        simp only [rptr7, Option.map_none] at c0
        clear hz O B HV
        go_wp2_with fail
        refine bodyPost_ret (v := .tuple #[.pointer none, .int .i64 1]) (by simp [results, Tryz.results8, go_sem]) rfl ?_
        exact ⟨rfl, B1.out⟩
      | some z =>
        have O1 : Hid (∀ j (hj : j < ps.length), j < K + 1 → ps[j] ≠ none) := fun j hj h => by
          by_cases e : j = K
          · subst e
            rw [hz]
            simp
          · exact O.out j hj (by omega)
        simp only [rptr7, Option.map_some] at c0
        clear hz O B
        go_wp2_with fail
        go_roundw
        case rel => exact ⟨K + 1, by omega, by go_num, O1, by first | exact rfl | trivial⟩
        case measure => simp [intOf]; omega
    · exfalso
      have h := HN.out
      unfold rhasNil at h
      obtain ⟨p, hp, hp2⟩ := List.any_eq_true.1 h
      obtain ⟨j, hj, e⟩ := List.mem_iff_getElem.1 hp
      have h1 := O.out j hj (by have := HQ.out; omega)
      rw [e] at h1
      cases p with
      | none => exact h1 rfl
      | some z => cases hp2
end Go.Proofs.YtnfkmpickmonoaaGreat
