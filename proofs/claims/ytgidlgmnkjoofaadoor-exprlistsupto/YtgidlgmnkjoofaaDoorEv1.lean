/-
  expr.Vars.
-/
import Derived.Test.YtgidlgmnkjoofaaDoorQb
import Derived.Test.YtgidlgmnkjoofaaDoorEv0
import Derived.Test.YtgidlgmnkjoofaaDoorShelf
import Derived.Sort.OwnSortedInts
namespace Go.Proofs.YtgidlgmnkjoofaaDoor
open Go.RowKit
set_option linter.unusedVariables false
set_option maxRecDepth 100000
theorem infoI : (Tryd.prog.info? 3).map (fun i => (i.zero, i.size, i.bytes)) = some (some (.int .i64 0), 1, 8) := by kernel_rfl
/-- A number appended to a row of the call's own. -/
theorem app_int {ops : Array Oper} {rest : List Oper} {o : Oper} {a : Act} {Q : Exit → Act → World → Prop} {W : World} (hgd : o.guard = none) (s x : Operand)
    (ho : o.op = .call { callee := .builtin .append, args := #[s, x], argTypes := #[26, 26] }) (base : Nat) (v : Value) (n : Nat) (xs : List Value) (hs : a.eval s = v) (hown : W.ownsRow base 3 1 v n xs)
    (b c : Nat) (z : Int) (hx : a.eval x = .slice (some ⟨b, 0, none⟩) 1 c) (hrow : W.cell? ⟨b, 0, none⟩ = some (.int .i64 z)) (hsmall : (n + 1) * 8 ≤ 140737488355328) (hbase : base ≤ W.heap.size)
    (h : ∀ v' w', w'.ownsRow base 3 1 v' (n + 1) (xs ++ [.int .i64 z]) → Below base W w' → wpList Tryd.prog ops Q rest (a.put o.dst v') w') : wpList Tryd.prog ops Q (o :: rest) a W := by
  obtain ⟨i0, hi, hz0, hz1, hz2⟩ := info_parts infoI
  refine wpList_append_own _ hgd s x 26 ho base 3 i0 (.int .i64 0) 1 8 Tryd.underlying26 hi hz0 hz1 hz2 rfl (by decide) v n xs hs hown ⟨b, 0, none⟩ 1 c [.int .i64 z] hx rfl ?_ (by simp [Value.oneCell']) (by simp only [maxLen]; omega) hsmall hbase ?_
  · intro j u q
    match j, q with
    | 0, q =>
      injection q with q
      subst q
      simpa [Addr.add] using hrow
  · intro v' w' h1 h2 _
    exact h v' w' h1 ((Below.refl base W).grown h2 hbase (fun k e => (hown.lt k e).1))
/-- The variables of a list of nodes, in their order. -/
def vnL (l : List Node) : List Int := (l.filter fun n => n.1 == 2).map (·.2)
theorem vnL_app (a b : List Node) : vnL (a ++ b) = vnL a ++ vnL b := by simp [vnL]
theorem vnL_len (a : List Node) : (vnL a).length ≤ a.length := by
  unfold vnL
  rw [List.length_map]
  exact List.length_filter_le _ _
theorem vnL_take (el : List Node) (k : Nat) (h : k < el.length) : vnL (el.take (k + 1)) = vnL (el.take k) ++ if (el[k]'h).1 = 2 then [(el[k]'h).2] else [] := by
  rw [List.take_add_one, List.getElem?_eq_getElem h, vnL_app]
  congr 1
  show vnL [el[k]] = _
  by_cases c : (el[k]'h).1 = 2 <;> simp [vnL, c]
abbrev OwnZ (W : World) (base : Nat) (v : Value) (zs : List Int) : Prop := W.ownsRow base 3 1 v zs.length (zs.map (Value.int .i64))
/-- A row of the call's own, sorted. -/
theorem sortI_any {w : World} {base : Nat} {v : Value} {zs : List Int} (h : OwnZ w base v zs) (hl : zs.length ≤ 1000000000) :
    Calls Tryd.prog 16 #[v] w fun e w' => e = .returned (.tuple #[]) ∧ OwnZ w' base v (zs.mergeSort fun x y => decide (x ≤ y)) ∧ w.grownBy w' v.ownBlock := by
  have hlt := h.lt
  rcases h.2 with ⟨rfl, h0⟩ | ⟨g, cap, cur, rfl, hg, hb, h1, h2, h3, h4⟩
  · obtain rfl : zs = [] := List.eq_nil_of_length_eq_zero h0
    refine (Any.slices_Sort_int_none Tryd.lays189 none 0 w).mono ?_
    rintro e w' ⟨rfl, rfl⟩
    exact ⟨rfl, by rw [List.mergeSort_nil]; exact World.ownsRow_nil _ _ _ _, ⟨rfl, rfl, rfl, Nat.le_refl _, fun _ _ _ => rfl⟩⟩
  · have hH : Go.Sort.Holds (Value.int .i64) w g 0 zs.toArray := holds_of_blockI hb (by rw [← h4, Nat.mul_one])
    refine (Tryd.slices_Sort_int g 0 cap zs w hH (hlt g rfl).2 (by omega)).mono ?_
    rintro e w' ⟨rfl, n, os, rfl⟩
    have hm : (zs.mergeSort fun x y => decide (x ≤ y)).length = zs.length := List.length_mergeSort _
    refine ⟨rfl, ?_, grownBy_sortedI _⟩
    have o := ownsRow_sortedI (w := w) (base := base) (n := n) (os := os) hm hg hb h1 h2 h3
    unfold OwnZ
    rw [hm]
    exact o
/-- A row of the call's own, compacted. -/
theorem compI_any {w : World} {base : Nat} {v : Value} {zs : List Int} (h : OwnZ w base v zs) (hl : zs.length ≤ 1000000000) :
    Calls Tryd.prog 17 #[v] w fun e w' => (∃ v', e = .returned v' ∧ OwnZ w' base v' (Lib.compact zs)) ∧ w.grownBy w' v.ownBlock := by
  have hlt := h.lt
  rcases h.2 with ⟨rfl, h0⟩ | ⟨g, cap, cur, rfl, hg, hb, h1, h2, h3, h4⟩
  · obtain rfl : zs = [] := List.eq_nil_of_length_eq_zero h0
    refine (Any.slices_Compact_int_empty Tryd.laysNm220 none 0 w).mono ?_
    rintro e w' ⟨rfl, rfl⟩
    exact ⟨⟨_, rfl, World.ownsRow_nil _ _ _ _⟩, ⟨rfl, rfl, rfl, Nat.le_refl _, fun _ _ _ => rfl⟩⟩
  · have hH : Go.Sort.Holds (Value.int .i64) w g 0 zs.toArray := holds_of_blockI hb (by rw [← h4, Nat.mul_one])
    refine (Tryd.slices_Compact_int g 0 cap zs w hH (by omega) h1).mono ?_
    rintro e w' ⟨rfl, q, rfl⟩
    have hc := Lib.compact_length_le zs
    have hm : (Lib.compact zs ++ List.replicate (zs.length - (Lib.compact zs).length) 0).length = zs.length := by simp; omega
    have ge : ∀ W : World, Go.Sort.grow W #[] = W := fun W => by simp [Go.Sort.grow]
    have o := ownsRow_sortedI (w := w) (base := base) (n := q) (os := #[]) hm hg hb h1 h2 h3
    have gr := grownBy_sortedI (w := w) (g := g) (n := q) (os := #[]) (Lib.compact zs ++ List.replicate (zs.length - (Lib.compact zs).length) 0).toArray
    rw [ge] at o gr
    refine ⟨⟨_, rfl, ?_⟩, gr⟩
    rcases o.2 with ⟨q0, -⟩ | ⟨g', cap', cur', e', a1, a2, a3, a4, a5, a6⟩
    · cases q0
    · injection e' with e1 e2 e3
      injection e1 with e1
      injection e1 with e1
      subst e1 e3
      refine ⟨by simp, .inr ⟨_, _, cur', rfl, a1, a2, by omega, a4, a5, ?_⟩⟩
      rw [Nat.mul_one] at a6 ⊢
      have := congrArg (List.take (Lib.compact zs).length) a6
      rw [List.take_take, Nat.min_eq_left hc] at this
      rw [this]
      simp
set_option maxHeartbeats 4000000 in
theorem vars_any (ad : Option Addr) (cap : Nat) (ls : List Sl) (w : World) (hR : RowV w ad (ls.flatMap SlC)) (hN : ∀ e ∈ ls, RowV w e.1.1 (e.2.flatMap NodeC)) (hI : ∀ e ∈ ls, ∀ n ∈ e.2, n.1 < 256) (hS : (ls.map (·.2)).flatten.length + ls.length ≤ 1000000000) :
    Calls Tryd.prog 6 #[.slice ad ls.length cap] w fun e w' => ∃ v, e = .returned v ∧ OwnZ w' w.heap.size v (varsI (vnL (ls.map (·.2)).flatten)) ∧ Below w.heap.size w w' := by
  have HR := hideR hR
  have HN := hideR hN
  have HS := hideR hS
  have HI := hideR hI
  clear hR hN hS hI
  generalize hn : ls.length = n at *
  have HL := hideR hn
  clear hn
  go_enter Tryd.func6, Tryd.ntmps6
  go_wp2_with fail
  go_loopw [3, 10] (fun vs i wr => ∃ (j : Nat) (v : Value), j ≤ n ∧ vs = v ∧ i = .int .i64 j ∧ Hid (OwnZ wr w.heap.size v (vnL ((ls.take j).map (·.2)).flatten) ∧ Below w.heap.size w wr)) (fun _ i _ => n - (intOf i).toNat)
  case atStart => exact ⟨0, _, by omega, rfl, rfl, World.ownsRow_nil _ _ _ _, Below.refl _ _⟩
  case round =>
    obtain ⟨j, v, hj, hv, rfl, E⟩ := hrel
    replace hv := hv.symm
    subst hv
    by_cases cj : j < n
    · have i1 : (j : Int) < (n : Int) := by omega
      have jl : j < ls.length := by rw [HL.out]; exact cj
      have nl : (n : Int) ≤ 1000000000 := by have := HS.out; omega
      have k0 : (0 : Int) ≤ (j : Int) := by omega
      have e1 : IntKind.i64.wrap ((j : Int) + 1) = (j : Int) + 1 := by rw [IntKind.wrap_i64]; omega
      obtain ⟨b, off, rfl, cc⟩ := rowV_at (s := 1) (fun _ => rfl) (HR.out.later E.out.2) (by decide) jl
      have x0 := cc 0 (by decide)
      simp only [SlC, List.getElem?_cons_zero, Nat.mul_one, Nat.add_zero] at x0
      clear cc
      have HE := hideR (HN.out _ (List.getElem_mem jl))
      have HEI := hideR (HI.out _ (List.getElem_mem jl))
      have TK := hideR (take_more ls j jl)
      have FL := hideR (flat_take_le ls (j + 1))
      rw [TK.out] at FL
      generalize ls[j]'jl = el at *
      obtain ⟨⟨ea, ec⟩, el⟩ := el
      simp only at x0 HE TK FL HEI
      generalize (ls.take j).map (·.2) = X at *
      obtain ⟨q, hq⟩ : ∃ q, el.length = q := ⟨_, rfl⟩
      have xl : X.flatten.length + q ≤ 1000000000 := by
        have h1 := FL.out
        have := HS.out
        rw [List.flatten_append, List.length_append, List.flatten_cons, List.flatten_nil, List.append_nil] at h1
        omega
      have HQ := hideR hq
      have ql : (q : Int) ≤ 1000000000 := by omega
      have XL := hideR xl
      rw [hq] at x0
      clear hq FL xl
      go_wp2_with fail
      go_loopw [3, 16] (fun vs i wr => ∃ (k : Nat) (v : Value), k ≤ q ∧ vs = v ∧ i = .int .i64 k ∧ Hid (OwnZ wr w.heap.size v (vnL (X.flatten ++ el.take k)) ∧ Below w.heap.size w wr)) (fun _ i _ => q - (intOf i).toNat)
      case atStart => exact ⟨0, _, by omega, rfl, rfl, by rw [List.take_zero, List.append_nil]; exact E⟩
      case round =>
        clear E x0
        obtain ⟨k, v, hk, hv, rfl, E⟩ := hrel
        replace hv := hv.symm
        subst hv
        by_cases ck : k < q
        · have k1 : (k : Int) < (q : Int) := by omega
          have k2 : (0 : Int) ≤ (k : Int) := by omega
          have kl : k < el.length := by rw [HQ.out]; exact ck
          obtain ⟨eb, eo, rfl, cc⟩ := rowV_at (s := 2) (fun _ => rfl) (HE.out.later E.out.2) (by decide) kl
          have x1 := cc 0 (by decide)
          have x2 := cc 1 (by decide)
          have VT := hideR (vnL_take el k kl)
          have NI := hideR (HEI.out _ (List.getElem_mem kl))
          generalize el[k]'kl = nd at *
          obtain ⟨o, z⟩ := nd
          simp only [NodeC, List.getElem?_cons_zero, List.getElem?_cons_succ, Nat.add_zero] at x1 x2 VT NI
          rw [← Nat.add_assoc] at x2
          clear cc
          have LN : Hid ((vnL (X.flatten ++ el.take k)).length ≤ 1000000000) := by
            have h1 := vnL_len (X.flatten ++ el.take k)
            have h2 := XL.out
            rw [List.length_append, List.length_take] at h1
            show _ ≤ _
            omega
          have SZ := hideR E.out.2.size
          by_cases co : o = 2
          · subst co
            rw [if_pos rfl] at VT
            go_wp2_with (at_builtin; refine app_int rfl _ _ rfl w.heap.size _ _ _ rfl ((E.out.1.alloc _).alloc _) (wr.heap.size + 1) 1 z rfl (by simp [go_sem]) (by have := LN.out; omega) (by have := SZ.out; simp; omega) ?_; intro v' w3 hw hb; have O1 := hideR hw; have B2 := hideR (((E.out.2.alloc SZ.out _).alloc (by have := SZ.out; simp; omega) _).trans hb); clear hw hb)
            go_roundw
            case rel => exact ⟨k + 1, _, by omega, rfl, by go_num, ⟨own_ext O1.out (by rw [vnL_app, vnL_app, VT.out]; simp [Nat.add_assoc]) (by rw [vnL_app, vnL_app, VT.out]; simp), B2.out⟩⟩
            case measure => first | (simp [intOf]; done) | (simp [intOf]; omega)
          · have c1 : ¬ (o : Int) = 2 := by omega
            have c2 : ((o : Int) == 2) = false := by simpa using c1
            rw [if_neg co] at VT
            go_wp2_with fail
            go_roundw
            case rel => exact ⟨k + 1, _, by omega, rfl, by go_num, ⟨own_ext (E.out.1.alloc _) (by rw [vnL_app, vnL_app, VT.out]; simp) (by rw [vnL_app, vnL_app, VT.out]; simp), E.out.2.alloc SZ.out _⟩⟩
            case measure => first | (simp [intOf]; done) | (simp [intOf]; omega)
        · have k1 : ¬ (k : Int) < (q : Int) := by omega
          have tk : el.take k = el := List.take_of_length_le (by have := HQ.out; omega)
          rw [tk] at E
          go_wp2_with fail
          go_roundw
          case rel => exact ⟨j + 1, _, by omega, rfl, by go_num, by rw [TK.out, List.flatten_append, List.flatten_cons, List.flatten_nil, List.append_nil]; exact E⟩
          case measure => first | (simp [intOf]; done) | (simp [intOf]; omega)
    · have i1 : ¬ (j : Int) < (n : Int) := by omega
      have tk : ls.take j = ls := List.take_of_length_le (by have := HL.out; omega)
      rw [tk] at E
      have ZL : Hid ((vnL (ls.map (·.2)).flatten).length ≤ 1000000000) := by
        have h1 := vnL_len (ls.map (·.2)).flatten
        have h2 := HS.out
        show _ ≤ _
        omega
      obtain ⟨zs, hz⟩ : ∃ zs, vnL (ls.map (·.2)).flatten = zs := ⟨_, rfl⟩
      rw [hz] at E ZL
      have HZ := hideR hz
      clear hz
      have HSO := hideR (sortI_any E.out.1 ZL.out)
      clear HR HN HI
      go_wp2_with fail
      refine HSO.out.mono ?_
      rintro e w1 ⟨rfl, o1, g1⟩
      have hm : (zs.mergeSort fun x y => decide (x ≤ y)).length = zs.length := List.length_mergeSort _
      have B1 := hideR (E.out.2.trans ((Below.refl w.heap.size wr).grown g1 E.out.2.size (fun k e => (E.out.1.lt k e).1)))
      have O1 := hideR o1
      have HCO := hideR (compI_any o1 (by rw [hm]; exact ZL.out))
      rw [sorted_vars] at HCO
      clear o1 g1 E HSO hm
      go_wp2_with fail
      refine HCO.out.mono ?_
      rintro e w2 ⟨⟨v', rfl, o2⟩, g2⟩
      have B2 := hideR (B1.out.trans ((Below.refl w.heap.size w1).grown g2 B1.out.size (fun k e => (O1.out.lt k e).1)))
      have O2 := hideR o2
      clear o2 g2 HCO O1 B1
      go_wp2_with fail
      go_ret
      exact ⟨_, rfl, by rw [HZ.out]; exact O2.out, B2.out⟩
end Go.Proofs.YtgidlgmnkjoofaaDoor
