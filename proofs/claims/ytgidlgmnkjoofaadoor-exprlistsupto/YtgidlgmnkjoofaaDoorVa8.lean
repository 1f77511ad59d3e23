/-
  The document's All.
-/
import Derived.Test.YtgidlgmnkjoofaaDoorQb
namespace Go.Proofs.YtgidlgmnkjoofaaDoor
open Go.RowKit
set_option linter.unusedVariables false
theorem allL_empty (X : List (List Node)) : allL (X ++ [[]]) = allL X := by
  unfold allL
  rw [allN_empty X [] rfl]
  simp
theorem allL_first (X : List (List Node)) (e : List Node) (h : (allL X).length = 0) (he : e ≠ []) : allL (X ++ [e]) = e := by
  have hf : X.flatten.length = 0 := by
    unfold allL at h
    rw [List.length_append] at h
    omega
  have z := (allN_zero X).2 hf
  unfold allL
  rw [allN_more X e he, z, List.flatten_append, List.length_eq_zero_iff.1 hf]
  simp
theorem allL_more (X : List (List Node)) (e : List Node) (h : ¬ (allL X).length = 0) (he : e ≠ []) : allL (X ++ [e]) = (13, 0) :: allL X ++ e := by
  have z : ¬ allN X = 0 := by
    intro q
    apply h
    have hf := (allN_zero X).1 q
    unfold allL
    rw [q, List.length_append, hf]
    rfl
  unfold allL
  rw [allN_more X e he, show allN X + 1 - 1 = (allN X - 1) + 1 by omega, List.replicate_succ, List.flatten_append]
  simp
theorem allL_len (X : List (List Node)) : (allL X).length ≤ X.length + X.flatten.length := by
  unfold allL
  have := allN_le X
  rw [List.length_append, List.length_replicate]
  omega
set_option maxRecDepth 100000 in
set_option maxHeartbeats 4000000 in
theorem rall_any (ad : Option Addr) (cap : Nat) (ls : List Sl) (w : World) (hR : RowV w ad (ls.flatMap SlC)) (hN : ∀ e ∈ ls, RowV w e.1.1 (e.2.flatMap NodeC)) (hS : (ls.map (·.2)).flatten.length + ls.length ≤ 1000000000) :
    Calls Tryd.prog 9 #[.slice ad ls.length cap] w fun e w' => ∃ v, e = .returned v ∧ w'.ownsRow w.heap.size 54 2 v (allL (ls.map (·.2))).length ((allL (ls.map (·.2))).flatMap NodeC) ∧ Below w.heap.size w w' := by
  have HR := hideR hR
  have HN := hideR hN
  have HS := hideR hS
  clear hR hN hS
  generalize hn : ls.length = n at *
  have HL := hideR hn
  clear hn
  go_enter Tryd.func9, Tryd.ntmps9
  go_wp2_with fail
  go_loopw [3, 4] (fun out i wr => ∃ (j : Nat) (v : Value), j ≤ n ∧ out = v ∧ i = .int .i64 j ∧ Hid (wr.ownsRow w.heap.size 54 2 v (allL ((ls.take j).map (·.2))).length ((allL ((ls.take j).map (·.2))).flatMap NodeC) ∧ Below w.heap.size w wr)) (fun _ i _ => n - (intOf i).toNat)
  case atStart => exact ⟨0, _, by omega, rfl, rfl, World.ownsRow_nil _ _ _ _, Below.refl _ _⟩
  case round =>
    obtain ⟨j, v, hj, hv, rfl, E⟩ := hrel
    replace hv := hv.symm
    subst hv
    obtain ⟨adr, cr, rfl, hrr, _⟩ := own_rowV E.out.1
    have RR := hideR hrr
    have B := hideR E.out.2
    clear hrr
    by_cases cj : j < n
    · have i1 : (j : Int) < (n : Int) := by omega
      have jl : j < ls.length := by rw [HL.out]; exact cj
      have nl : (n : Int) ≤ 1000000000 := by have := HS.out; omega
      have k0 : (0 : Int) ≤ (j : Int) := by omega
      have e1 : IntKind.i64.wrap ((j : Int) + 1) = (j : Int) + 1 := by rw [IntKind.wrap_i64]; omega
      obtain ⟨b, off, rfl, cc⟩ := rowV_at (s := 1) (fun _ => rfl) HR.out (by decide) jl
      have xw := cc 0 (by decide)
      simp only [SlC, List.getElem?_cons_zero, Nat.mul_one, Nat.add_zero] at xw
      have x0 := kc _ _ B.out xw
      have XW := hideR xw
      clear cc xw
      have HE := hideR (HN.out _ (List.getElem_mem jl))
      have TK := hideR (take_more ls j jl)
      have FL := hideR (flat_take_le ls (j + 1))
      rw [TK.out] at FL
      have AN : Hid ((allL ((ls.take j).map (·.2))).length ≤ j + ((ls.take j).map (·.2)).flatten.length) := Nat.le_trans (allL_len _) (by rw [List.length_map, List.length_take]; omega)
      generalize ls[j]'jl = el at *
      obtain ⟨⟨ea, ec⟩, el⟩ := el
      simp only at x0 HE TK FL XW
      generalize (ls.take j).map (·.2) = X at *
      have A0 := hideR (allL_empty X)
      have A1 := hideR (allL_first X el)
      have A2 := hideR (allL_more X el)
      have xl : (allL X).length + el.length + 1 ≤ 2000000000 := by
        have h1 := FL.out
        have h2 := HS.out
        have h3 := AN.out
        rw [List.flatten_append, List.length_append, List.flatten_cons, List.flatten_nil, List.append_nil] at h1
        omega
      have E1 := hideR E.out.1
      clear E AN FL
      generalize hq : (allL X).length = q at *
      have HQ := hideR hq
      clear hq
      by_cases ce : el = []
      · subst ce
        go_wp2_with fail
        go_roundw
        case rel => exact ⟨j + 1, _, by omega, rfl, by go_num, ⟨own_ext E1.out (by rw [TK.out, A0.out, HQ.out]) (by rw [TK.out, A0.out]), B.out⟩⟩
        case measure => first | (simp [intOf]; done) | (simp [intOf]; omega)
      · have el0 : 0 < el.length := List.length_pos_iff.2 ce
        obtain ⟨eb, eo, rfl, _⟩ := rowV_at (s := 2) (fun _ => rfl) HE.out (by decide) el0
        have c1 : ¬ (el.length : Int) = 0 := by omega
        have c2 : ((el.length : Int) == 0) = false := by simpa using c1
        have XL := hideR xl
        have SZ := hideR B.out.size
        clear xl
        by_cases cz : q = 0
        · have AX := hideR (A1.out cz ce)
          have XN : Hid (allL X = []) := List.length_eq_zero_iff.1 (HQ.out.trans cz)
          have d1 : ((q : Int) == 0) = true := by simp; omega
          clear A0 A1 A2
          go_wp2_with (at_builtin; refine app_nodes rfl _ _ rfl w.heap.size _ _ _ rfl E1.out eb eo el.length ec el rfl rfl (HE.out.later B.out) (by have := XL.out; omega) SZ.out ?_; intro v' w3 hw hb; have O1 := hideR hw; have B2 := hideR (B.out.trans hb); clear hw hb)
          go_roundw
          case rel => exact ⟨j + 1, _, by omega, rfl, by go_num, ⟨own_ext O1.out (by rw [TK.out, AX.out]; omega) (by rw [TK.out, AX.out, XN.out]; rfl), B2.out⟩⟩
          case measure => first | (simp [intOf]; done) | (simp [intOf]; omega)
        · have AX := hideR (A2.out cz ce)
          have d0 : ¬ (q : Int) = 0 := by omega
          have d1 : ((q : Int) == 0) = false := by simp; omega
          obtain ⟨g, hg⟩ : ∃ g, adr = some ⟨g, 0, .none⟩ := by
            rcases E1.out.2 with ⟨_, h0⟩ | ⟨g, cap', cur, h0, _⟩
            · exact absurd h0 cz
            · injection h0 with h1 h2 h3
              exact ⟨g, h1⟩
          subst hg
          have L1 := hideR (World.ownsRow_lit (base := w.heap.size) (e := 54) (size := 2) wr #[.int .u8 13, .int .i64 0] 1 SZ.out (by decide) rfl)
          have S1 := hideR (single wr (.cells #[.int .u8 13, .int .i64 0] 54))
          clear A0 A1 A2
          go_wp2_with (at_builtin; first
            | (refine app_nodes rfl _ _ rfl w.heap.size _ _ _ rfl L1.out g 0 q cr (allL X) rfl HQ.out (RR.out.later S1.out) (by have := XL.out; omega) (by have := SZ.out; simp; omega) ?_; intro u1 w3 hw hb; have O1 := hideR hw; have B2 := hideR ((B.out.alloc SZ.out _).trans hb); have y0 := kc _ _ B2.out XW.out; clear hw hb)
            | (refine app_nodes rfl _ _ rfl w.heap.size _ _ _ rfl O1.out eb eo el.length ec el rfl rfl (HE.out.later B2.out) (by have := XL.out; omega) B2.out.size ?_; intro v' w4 hw hb; have O2 := hideR hw; have B3 := hideR (B2.out.trans hb); clear hw hb))
          go_roundw
          case rel => exact ⟨j + 1, _, by omega, rfl, by go_num, ⟨own_ext O2.out (by rw [TK.out, AX.out, List.length_append, List.length_cons, HQ.out]; omega) (by rw [TK.out, AX.out]; simp), B3.out⟩⟩
          case measure => first | (simp [intOf]; done) | (simp [intOf]; omega)
    · obtain rfl : j = n := by omega
      have tk : ls.take j = ls := List.take_of_length_le (by have := HL.out; omega)
      rw [tk] at E
      rw [tk]
      have O1 := hideR E.out.1
      clear E RR
      generalize hX : ls.map (·.2) = X at *
      have HX := hideR hX
      clear hX
      generalize hq : (allL X).length = q at *
      have HQ := hideR hq
      clear hq
      go_wp2_with fail
      exact bodyPost_ret (v := .slice adr q cr) (by simp [results, Tryd.results9, go_sem]) rfl ⟨_, rfl, own_ext O1.out (by rw [HX.out, HQ.out]) (by rw [HX.out]), B.out⟩
end Go.Proofs.YtgidlgmnkjoofaaDoor
