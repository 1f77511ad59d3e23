/-
  The walk of FedOwn.
-/
import Derived.Test.YtnfkmpickmonoaaQ50
import Derived.Test.YtnfkmpickmonoaaQ52
namespace Go.Proofs.Ytnfkmpickmonoaa
open Go.RowKit Go.Shelf
set_option linter.unusedVariables false
set_option maxRecDepth 100000
attribute [local go_sem] Oper.semAt_some
/-- A row whose cells can be written. -/
def Wrt (g q : Nat) (W : World) : Prop := ∀ k, k < q → (∃ u, W.cell? ⟨g, k, none⟩ = some u) ∧ W.frozen? ⟨g, k, none⟩ = false
theorem Wrt.store {g q : Nat} {W : World} (h : Wrt g q W) (k : Nat) (u : Value) (hk : k < q) : Wrt g q (W.setCell ⟨g, k, none⟩ u) := fun j hj => by
  obtain ⟨⟨v, hv⟩, hf⟩ := h j hj
  refine ⟨?_, by rw [World.frozen?_setCell]; exact hf⟩
  by_cases e : j = k
  · subst e
    exact ⟨u, World.cell?_setCell_same _ _ _ hv⟩
  · refine ⟨v, ?_⟩
    rw [World.cell?_setCell_other _ _ _ _ (by intro q; injection q with _ q; exact e q.symm)]
    exact hv
theorem own_wrt {w : World} {base q : Nat} {T : TypeId} {v : Value} {xs : List Value} (h : w.ownsRow base T 1 v q xs) : ∃ ad cap g, v = .slice ad q cap ∧ (0 < q → ad = some ⟨g, 0, none⟩ ∧ base ≤ g) ∧ Wrt g q w := by
  rcases h.2 with ⟨rfl, rfl⟩ | ⟨g, cap, cur, rfl, h2, h3, h4, h5, h6, h7⟩
  · exact ⟨none, 0, 0, rfl, fun h => by omega, fun k hk => by omega⟩
  · exact ⟨_, cap, g, rfl, fun _ => ⟨rfl, h2⟩, fun k hk => ⟨⟨_, by rw [World.cell?]; simp only [h3]; exact Array.getElem?_eq_getElem (by omega)⟩, h.frozenAt k⟩⟩
theorem SameC.step {X : Option Nat} {A B : World} {g k : Nat} {u : Value} (h : SameC X A B) (hX : X = some g) : SameC X A (B.setCell ⟨g, k, none⟩ u) :=
  ⟨by simpa [World.setCell] using h.size, fun b o hb ho ne => (Below.heap_setCell _ _ _ _ (fun e => ne (by rw [hX, e]))).trans (h.block b o hb ho ne)⟩
set_option maxHeartbeats 8000000 in
theorem fedOwn.walk (n : Int) (hn : (Lit.int .i64 n).wf = true) (ad : Option Addr) (len cap : Nat) (nl : Bool) (V : Nat → Value) (L : Nat → List Int) (w : World) (hB : Bss w ad len V L) :
    Calls Try.prog 5 #[.int .i64 n, .agg #[.slice ad len cap, .bool nl]] w fun e w' => e = .returned (.bool true) ∧ Below w.heap.size w w' := by
  have B1 := hideD (below_one w (.cells #[.slice ad len cap, .bool nl] 24))
  have HB := hideD (both7_any n ad len cap nl V L (w.alloc (.cells #[.slice ad len cap, .bool nl] 24)) (fun k hk => by
    obtain ⟨b, off, h1, h2, h3, h4⟩ := hB k hk
    exact ⟨b, off, h1, kc _ _ B1.out h2, h3.past7 B1.out, h4⟩))
  have HL : Hid (∀ w : World, Calls Try.prog 11 #[] w fun e w' => e = .returned (.bool true) ∧ Below w.heap.size w w') := flive_any
  clear hB hn
  go_enter Try.func5, Try.ntmps5
  go_wp2_with fail
  refine HB.out.mono ?_
  rintro e w2 ⟨⟨es, va, vb, rfl, hl, h7⟩, hb⟩
  have sz1 : (w.alloc (.cells #[.slice ad len cap, .bool nl] 24)).heap.size = w.heap.size + 1 := by simp
  have B2 := hideD (B1.out.trans (hb.mono (by omega)))
  obtain ⟨N, m, -, ht⟩ := news7 h7 hl
  have H7 := hideD h7
  generalize (w.alloc (.cells #[.slice ad len cap, .bool nl] 24)).heap.size = H at *
  obtain ⟨q, hq⟩ : ∃ q, es.length = q := ⟨_, rfl⟩
  clear hb h7 HB B1
  rcases ht with ⟨k, hk, hp, hr⟩ | ⟨N8, hm, F, hp, hr⟩
  · have HP := hideD (hp w2 (Below.refl _ _))
    have HR := hideD hr
    clear hp hr H7
    go_wp2_with fail
    refine HP.out.mono ?_
    rintro e w3 ⟨rfl, hb3⟩
    have B3 := hideD hb3
    have HR3 := hideD (HR.out _ hb3)
    clear HP HR hb3
    go_wp2_with fail
    refine HR3.out.mono ?_
    rintro e w4 ⟨rfl, hb4⟩
    have B4 := hideD (beyondD B2.out (beyondD B3.out hb4))
    clear HR3 hb4 B3 B2
    go_wp2_with fail
    refine (HL.out w4).mono ?_
    rintro e w5 ⟨rfl, hb5⟩
    have B5 := hideD (beyondD B4.out hb5)
    clear HL hb5 B4
    go_wp2_with fail
    go_ret
    exact ⟨rfl, B5.out⟩
  · have HP := hideD (hp w2 (Below.refl _ _))
    have HR := hideD hr
    have HM := hideD hm
    have hown := H7.out.a
    rw [hq] at hown
    obtain ⟨ada, capa, g, rfl, hg, hw⟩ := own_wrt hown
    have PX := hideD (own_ptr H7.out.a pv_ptr H7.out.na)
    have TX : Hid (∀ x, (Value.slice ada q capa).ownBlock = some x → H ≤ x ∧ ∃ cur, w2.heap[x]? = some (.cells cur 30)) := fun x e => own_blk H7.out.a e
    clear hp hr hm hown
    go_wp2_with fail
    refine HP.out.mono ?_
    rintro e w3 ⟨⟨fb, zs, rfl, hf⟩, hb3⟩
    have HR3 := hideD (HR.out _ hb3.out)
    clear HP HR
    go_wp2_with fail
    refine HR3.out.mono ?_
    rintro e w4 ⟨⟨gb, rs, rfl, hf2⟩, hb4⟩
    have B24 := hideD (beyondD hb3.out hb4.out)
    obtain ⟨X, hX⟩ : ∃ X, (Value.slice ada q capa).ownBlock = X := ⟨_, rfl⟩
    have HXg : Hid (0 < q → X = some g) := fun h => by rw [← hX, (hg h).1]; rfl
    have HPX : Hid (PtrX X w4) := fun x e => by
      obtain ⟨p, h⟩ := PX.out x (hX.trans e)
      exact ⟨p, kc _ _ B24.out h⟩
    have HTX : Hid (∀ x, X = some x → x < w2.heap.size ∧ ∃ cur, w4.heap[x]? = some (.cells cur 30)) := fun x e => by
      obtain ⟨-, cur, h⟩ := TX.out x (hX.trans e)
      exact ⟨lt_of h, cur, (B24.out.block x (lt_of h)).trans h⟩
    have HXH : Hid (∀ x, X = some x → H ≤ x) := fun x e => (TX.out x (hX.trans e)).1
    have F4 : Hid (FedAt w4 fb N m zs ∧ (∀ v, w4.cell? ⟨fb, 1, none⟩ = some v → ∀ x, X = some x → v.ownBlock ≠ some x)) := by
      obtain ⟨h1, -, h3⟩ := hf.out
      refine ⟨h1.past hb4.out, fun v hv x ex e => ?_⟩
      obtain ⟨v', hv', h4⟩ := h3 fb rfl
      have := kc _ _ hb4.out hv'
      rw [this] at hv
      injection hv with hv
      subst hv
      have := h4 x e
      have := (HTX.out x ex).1
      omega
    have R4 : Hid (RFedAt w4 gb N m rs) := hf2.out.1
    have AL := hideD (same_alike hf.out.2.1 hf2.out.2)
    have W4 : Hid (Wrt g q w4) := fun k hk => by
      obtain ⟨⟨u, hu⟩, hfz⟩ := hw k hk
      exact ⟨⟨u, kc _ _ B24.out hu⟩, kf _ _ B24.out hu hfz⟩
    have BH : Hid (Below w.heap.size w w4) := beyondD B2.out B24.out
    have HW : Hid (0 < q → w.heap.size ≤ g) := fun h => by
      have h1 := HXH.out g (HXg.out h)
      omega
    have HG : Hid (0 < q → ada = some ⟨g, 0, none⟩) := fun h => (hg h).1
    clear hf hf2 hb3 hb4 HR3 H7 PX TX hX hg hw B24 B2
    go_wp2_with fail
    go_loopw [11] (fun i wr => ∃ (I : Nat), I ≤ q ∧ i = .int .i64 (I : Int) ∧ Hid (SameC X w4 wr) ∧ Hid (Wrt g q wr) ∧ Hid (Below w.heap.size w wr)) (fun i _ => q - (intOf i).toNat)
    case atStart => exact ⟨0, Nat.zero_le _, rfl, ⟨Nat.le_refl _, fun b o h _ _ => h⟩, W4, BH⟩
    case round =>
      obtain ⟨I, hI, rfl, SC, WR, B⟩ := hrel
      by_cases ci : I < q
      · have k0 : (I : Int) < (q : Int) := by omega
        obtain ⟨⟨u, c0⟩, f0⟩ := WR.out I ci
        obtain rfl := HG.out (by omega)
        have SC1 : Hid (SameC X w4 (wr.setCell ⟨g, I, none⟩ (.pointer none))) := SC.out.step (HXg.out (by omega))
        have WR1 : Hid (Wrt g q (wr.setCell ⟨g, I, none⟩ (.pointer none))) := WR.out.store I _ ci
        have BN : Hid (Below w.heap.size w (wr.setCell ⟨g, I, none⟩ (.pointer none))) := B.out.setCell (p := ⟨g, I, none⟩) (HW.out (by omega)) _
        clear SC WR B
        go_wp2_with fail
        go_roundw
        case rel => exact ⟨I + 1, by omega, by go_num, SC1, WR1, BN⟩
        case measure => simp [intOf]; omega
      · have k0 : ¬ (I : Int) < (q : Int) := by omega
        obtain ⟨wo, hwo⟩ : ∃ wo, wo = wr := ⟨_, rfl⟩
        subst hwo
        have FA := hideD (F4.out.1.sameX SC.out HPX.out F4.out.2)
        have mp : 0 < m := by rw [HM.out]; exact Nat.mul_pos (by omega) (by omega)
        have RA := hideD (R4.out.sameX SC.out HPX.out (fun x e => (HTX.out x e).2) mp)
        have HZ := hideD (fzones_any fb N m zs wo FA.out)
        clear F4 R4 SC WR HPX HTX HXH HXg W4 BH HW HG mp
        go_wp2_with fail
        refine HZ.out.mono ?_
        rintro e w5 ⟨⟨v, rfl, hown⟩, hb5⟩
        obtain ⟨ql, hql⟩ : ∃ ql, zs.length = ql := ⟨_, rfl⟩
        rw [hql] at hown
        obtain ⟨adl, capl, gl, rfl, hgl, hwl⟩ := own_wrt hown
        have q4 : ql ≤ 4096 := by rw [← hql]; exact FA.out.len
        have B5 := hideD hb5
        have W5 := hideD hwl
        have HGl := hideD hgl
        clear hown hb5 hwl hgl HZ
        go_wp2_with fail
        go_loopw [13] (fun i wr => ∃ (I : Nat), I ≤ ql ∧ i = .int .i64 (I : Int) ∧ Hid (Wrt gl ql wr) ∧ Hid (Below wo.heap.size wo wr)) (fun i _ => ql - (intOf i).toNat)
        case atStart => exact ⟨0, Nat.zero_le _, rfl, W5, B5⟩
        case round =>
          obtain ⟨J, hJ, rfl, WJ, BJ⟩ := hrel
          by_cases cj : J < ql
          · have j0 : (J : Int) < (ql : Int) := by omega
            obtain ⟨⟨u, c0⟩, f0⟩ := WJ.out J cj
            obtain ⟨rfl, hgl⟩ := HGl.out (by omega)
            have WJ1 : Hid (Wrt gl ql (wr.setCell ⟨gl, J, none⟩ (.pointer none))) := WJ.out.store J _ cj
            have BN : Hid (Below wo.heap.size wo (wr.setCell ⟨gl, J, none⟩ (.pointer none))) := BJ.out.setCell (p := ⟨gl, J, none⟩) hgl _
            clear WJ BJ hgl
            go_wp2_with fail
            go_roundw
            case rel => exact ⟨J + 1, by omega, by go_num, WJ1, BN⟩
            case measure => simp [intOf]; omega
          · have j0 : ¬ (J : Int) < (ql : Int) := by omega
            have BE := hideD (beyondD B.out BJ.out)
            have FS := hideD (FA.out.past BJ.out)
            have RS := hideD (RA.out.past BJ.out)
            clear WJ BJ FA RA B5 W5 HGl B
            go_wp2_with fail
            refine (HL.out wr).mono ?_
            rintro e w6 ⟨rfl, hb6⟩
            have HS := hideD (same7_any fb gb N m zs rs w6 N8 HM.out (FS.out.past hb6) (RS.out.past hb6) AL.out)
            have BE6 := hideD (beyondD BE.out hb6)
            clear HL hb6 FS RS BE AL
            go_wp2_with fail
            refine HS.out.mono ?_
            rintro e w7 ⟨rfl, hb7⟩
            have BE7 := hideD (beyondD BE6.out hb7)
            clear HS hb7 BE6
            go_wp2_with fail
            go_ret
            exact ⟨rfl, BE7.out⟩
end Go.Proofs.Ytnfkmpickmonoaa
