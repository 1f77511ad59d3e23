/-
  The document's Vars.
-/
import Derived.Test.YtgidlgmnkjoofaaDoorEv2
namespace Go.Proofs.YtgidlgmnkjoofaaDoor
open Go.RowKit
set_option linter.unusedVariables false
set_option maxRecDepth 100000
theorem own_zs {W : World} {base : Nat} {v : Value} {zs : List Int} (h : OwnZ W base v zs) : ∃ ad cap, v = .slice ad zs.length cap ∧ ZsAt W ad zs ∧ zs.length ≤ cap ∧ ((ad = none ∧ zs.length = 0 ∧ cap = 0) ∨ ∃ b off, ad = some ⟨b, off, none⟩) := by
  rcases h.2 with ⟨rfl, h0⟩ | ⟨g, cap, cur, rfl, a1, a2, a3, a4⟩
  · obtain rfl : zs = [] := List.eq_nil_of_length_eq_zero h0
    exact ⟨_, _, rfl, fun k hk => absurd hk (by simp), Nat.le_refl _, .inl ⟨rfl, rfl, rfl⟩⟩
  · refine ⟨_, _, rfl, fun k hk => ⟨g, 0, rfl, ?_⟩, a3, .inr ⟨_, _, rfl⟩⟩
    have := h.cellAt k (by omega)
    rw [Nat.zero_add, this, List.getElem?_map, List.getElem?_eq_getElem hk]
    rfl
theorem own_base {W : World} {base b2 : Nat} {v : Value} {zs : List Int} (h : OwnZ W b2 v zs) (hb : base ≤ b2) : OwnZ W base v zs := by
  refine ⟨h.1, ?_⟩
  rcases h.2 with q | ⟨g, cap, cur, rfl, a1, a2⟩
  · exact .inl q
  · exact .inr ⟨g, cap, cur, rfl, Nat.le_trans hb a1, a2⟩
theorem varsI_more (a : List Int) (z : Int) : varsI (a ++ [z]) = withI (varsI a) z := by
  unfold varsI
  rw [List.foldl_append]
  rfl
theorem withI_len : ∀ (l : List Int) (n : Int), (withI l n).length ≤ l.length + 1
  | [], n => by simp [withI]
  | a :: l, n => by
    unfold withI
    have := withI_len l n
    by_cases h1 : a < n
    · rw [if_pos h1]; simp; omega
    · rw [if_neg h1]
      by_cases h2 : a = n
      · rw [if_pos h2]; simp
      · rw [if_neg h2]; simp
theorem fold_len : ∀ (l acc : List Int), (l.foldl withI acc).length ≤ acc.length + l.length
  | [], acc => by simp
  | a :: l, acc => by
    have h1 := fold_len l (withI acc a)
    have h2 := withI_len acc a
    rw [List.foldl_cons, List.length_cons]
    omega
theorem varsI_len (l : List Int) : (varsI l).length ≤ l.length := by
  have := fold_len l []
  simpa [varsI] using this
set_option maxHeartbeats 4000000 in
theorem rvars_any (ad : Option Addr) (cap : Nat) (ls : List Sl) (w : World) (hR : RowV w ad (ls.flatMap SlC)) (hN : ∀ e ∈ ls, RowV w e.1.1 (e.2.flatMap NodeC)) (hI : ∀ e ∈ ls, ∀ n ∈ e.2, n.1 < 256) (hS : (ls.map (·.2)).flatten.length + ls.length ≤ 1000000000) :
    Calls Tryd.prog 11 #[.slice ad ls.length cap] w fun e w' => ∃ v, e = .returned v ∧ OwnZ w' w.heap.size v (varsI (vnL (ls.map (·.2)).flatten)) ∧ Below w.heap.size w w' := by
  have HR := hideR hR
  have HN := hideR hN
  have HS := hideR hS
  have HI := hideR hI
  clear hR hN hS hI
  generalize hn : ls.length = n at *
  have HL := hideR hn
  clear hn
  go_enter Tryd.func11, Tryd.ntmps11
  go_wp2_with fail
  go_loopw [3, 4] (fun vs i wr => ∃ (j : Nat) (v : Value), j ≤ n ∧ vs = v ∧ i = .int .i64 j ∧ Hid (OwnZ wr w.heap.size v (varsI (vnL ((ls.take j).map (·.2)).flatten)) ∧ Below w.heap.size w wr)) (fun _ i _ => n - (intOf i).toNat)
  case atStart => exact ⟨0, _, by omega, rfl, rfl, World.ownsRow_nil _ _ _ _, Below.refl _ _⟩
  case round =>
    obtain ⟨j, v, hj, hv, rfl, E⟩ := hrel
    replace hv := hv.symm
    subst hv
    by_cases cj : j < n
    · have i1 : (j : Int) < (n : Int) := by omega
      have jl : j < ls.length := by rw [HL.out]; exact cj
      have nl : (n : Int) ≤ 1000000000 := by have := HS.out; omega
      have k0 : (0 : Int) ≤ (j : Int) := by omega
      have e1 : IntKind.i64.wrap ((j : Int) + 1) = (j : Int) + 1 := by rw [IntKind.wrap_i64]; omega
      obtain ⟨b, off, rfl, cc⟩ := rowV_at (s := 1) (fun _ => rfl) HR.out (by decide) jl
      have x0 := cc 0 (by decide)
      simp only [SlC, List.getElem?_cons_zero, Nat.mul_one, Nat.add_zero] at x0
      clear cc
      have HE := hideR (HN.out _ (List.getElem_mem jl))
      have HEI := hideR (HI.out _ (List.getElem_mem jl))
      have TK := hideR (take_more ls j jl)
      have FL := hideR (flat_take_le ls (j + 1))
      rw [TK.out] at FL
      generalize ls[j]'jl = el at *
      obtain ⟨⟨ea, ec⟩, el⟩ := el
      simp only at x0 HE TK FL HEI
      generalize (ls.take j).map (·.2) = X at *
      obtain ⟨q, hq⟩ : ∃ q, el.length = q := ⟨_, rfl⟩
      have xl : X.flatten.length + q ≤ 1000000000 := by
        have h1 := FL.out
        have := HS.out
        rw [List.flatten_append, List.length_append, List.flatten_cons, List.flatten_nil, List.append_nil] at h1
        omega
      have HQ := hideR hq
      have ql : (q : Int) ≤ 1000000000 := by omega
      have XL := hideR xl
      rw [hq] at x0
      have XW := hideR x0
      clear hq FL xl x0
      go_wp2_with fail
      go_loopw [3, 5] (fun vs i wr => ∃ (k : Nat) (v : Value), k ≤ q ∧ vs = v ∧ i = .int .i64 k ∧ Hid (OwnZ wr w.heap.size v (varsI (vnL (X.flatten ++ el.take k))) ∧ Below w.heap.size w wr)) (fun _ i _ => q - (intOf i).toNat)
      case atStart => exact ⟨0, _, by omega, rfl, rfl, by rw [List.take_zero, List.append_nil]; exact E⟩
      case round =>
        clear E
        obtain ⟨k, v, hk, hv, rfl, E⟩ := hrel
        replace hv := hv.symm
        subst hv
        have x0 := kc _ _ E.out.2 XW.out
        have k2 : (0 : Int) ≤ (k : Int) := by omega
        by_cases ck : k < q
        · have k1 : (k : Int) < (q : Int) := by omega
          have kl : k < el.length := by rw [HQ.out]; exact ck
          obtain ⟨eb, eo, rfl, cc⟩ := rowV_at (s := 2) (fun _ => rfl) (HE.out.later E.out.2) (by decide) kl
          have x1 := cc 0 (by decide)
          have x2 := cc 1 (by decide)
          have VT := hideR (vnL_take el k kl)
          generalize el[k]'kl = nd at *
          obtain ⟨o, z⟩ := nd
          simp only [NodeC, List.getElem?_cons_zero, List.getElem?_cons_succ, Nat.add_zero] at x1 x2 VT
          rw [← Nat.add_assoc] at x2
          clear cc
          have LN : Hid ((varsI (vnL (X.flatten ++ el.take k))).length ≤ 1000000000) := by
            have h0 := varsI_len (vnL (X.flatten ++ el.take k))
            have h1 := vnL_len (X.flatten ++ el.take k)
            have h2 := XL.out
            rw [List.length_append, List.length_take] at h1
            show _ ≤ _
            omega
          by_cases co : o = 2
          · subst co
            rw [if_pos rfl] at VT
            obtain ⟨av, cv, rfl, hz, hcv, hA⟩ := own_zs E.out.1
            have HW := hideR (with_any av cv _ z wr hz LN.out hcv hA)
            rw [← varsI_more] at HW
            clear hz hcv hA
            go_wp2_with fail
            refine HW.out.mono ?_
            rintro e w3 ⟨v', rfl, hw, hb⟩
            have O1 := hideR (own_base hw E.out.2.size)
            have B2 := hideR (E.out.2.trans (hb.mono E.out.2.size))
            clear hw hb HW
            go_wp2_with fail
            go_roundw
            case rel => exact ⟨k + 1, _, by omega, rfl, by go_num, ⟨by rw [vnL_app, VT.out, ← List.append_assoc, ← vnL_app]; exact O1.out, B2.out⟩⟩
            case measure => first | (simp [intOf]; done) | (simp [intOf]; omega)
          · have c1 : ¬ (o : Int) = 2 := by omega
            have c2 : ((o : Int) == 2) = false := by simpa using c1
            rw [if_neg co] at VT
            go_wp2_with fail
            go_roundw
            case rel => exact ⟨k + 1, _, by omega, rfl, by go_num, ⟨by rw [vnL_app, VT.out, List.append_nil, ← vnL_app]; exact E.out.1, E.out.2⟩⟩
            case measure => first | (simp [intOf]; done) | (simp [intOf]; omega)
        · have k1 : ¬ (k : Int) < (q : Int) := by omega
          have tk : el.take k = el := List.take_of_length_le (by have := HQ.out; omega)
          rw [tk] at E
          go_wp2_with fail
          go_roundw
          case rel => exact ⟨j + 1, _, by omega, rfl, by go_num, by rw [TK.out, List.flatten_append, List.flatten_cons, List.flatten_nil, List.append_nil]; exact E⟩
          case measure => first | (simp [intOf]; done) | (simp [intOf]; omega)
    · have i1 : ¬ (j : Int) < (n : Int) := by omega
      have tk : ls.take j = ls := List.take_of_length_le (by have := HL.out; omega)
      rw [tk] at E
      go_wp2_with fail
      go_ret
      exact ⟨_, rfl, E.out.1, E.out.2⟩
end Go.Proofs.YtgidlgmnkjoofaaDoor
