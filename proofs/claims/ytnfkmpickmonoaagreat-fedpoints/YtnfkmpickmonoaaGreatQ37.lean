/-
  fed: slices.ContainsFunc over a union's zones; Has, includesAll, Same of the program.
-/
import Derived.Test.YtnfkmpickmonoaaGreatQ29
import Derived.Test.YtnfkmpickmonoaaGreatQ35
import Derived.Test.YtnfkmpickmonoaaGreatQ31
namespace Go.Proofs.YtnfkmpickmonoaaGreat
open Go.RowKit Go.Shelf
set_option linter.unusedVariables false
set_option maxRecDepth 100000
attribute [local go_sem] Oper.semAt_some
/-- A row of zones that can be read. -/
def ZRowAt (w : World) (ad : Option Addr) (zs : List ZR) : Prop := ∀ K (h : K < zs.length), ∃ g, ad = some ⟨g, 0, none⟩ ∧ w.cell? ⟨g, K, none⟩ = some (pvF zs[K])
theorem own_zrow {w : World} {base q cap : Nat} {ad : Option Addr} {zs : List ZR} (h : w.ownsRow base 41 1 (.slice ad q cap) zs.length (zs.map pvF)) : ZRowAt w ad zs := fun K hK => by
  rcases own_at h with ⟨e1, e2⟩ | ⟨g, cap', e1, -, -, hc⟩
  · omega
  · injection e1 with e1
    exact ⟨g, e1, hc K _ hK (by rw [List.getElem?_map, List.getElem?_eq_getElem hK]; rfl)⟩
set_option maxHeartbeats 2000000 in
theorem ifunH_any (bx : Nat) (ad : Option Addr) (cap q : Nat) (zs : List ZR) (P : ZR → Bool) (w : World) (hq : zs.length = q) (q1 : q ≤ 9223372036854775807) (hV : ZRowAt w ad zs)
    (hF : ∀ z ∈ zs, ∀ W, Below w.heap.size w W → Calls Tryz.prog 45 #[.pointer (some ⟨z.1, 0, none⟩), .pointer (some ⟨bx, 0, none⟩)] W fun e w' => e = .returned (.bool (P z)) ∧ Below W.heap.size W w') :
    Calls Tryz.prog 59 #[.slice ad q cap, .func (.func 45) #[] #[.pointer (some ⟨bx, 0, none⟩)]] w fun e w' => (∃ i : Int, e = .returned (.int .i64 i) ∧ decide (0 ≤ i) = zs.any P) ∧ Below w.heap.size w w' := by
  have HV := hideD hV
  have HQ := hideD hq
  have HF := hideD hF
  clear hV hq hF
  go_enter Tryz.func59, Tryz.ntmps59
  go_wp2_with fail
  go_loopw [8] (fun s wr => ∃ (K : Nat), K ≤ q ∧ s = .int .i64 (K : Int) ∧ Hid ((zs.take K).any P = false) ∧ Hid (Below w.heap.size w wr)) (fun s _ => q - (intOf s).toNat)
  case atStart => exact ⟨0, by omega, rfl, rfl, Below.refl _ _⟩
  case round =>
    obtain ⟨K, hK, rfl, HA, B⟩ := hrel
    by_cases ck : K < q
    · have hl : K < zs.length := by rw [HQ.out]; exact ck
      obtain ⟨g, rfl, c0⟩ := HV.out K hl
      have c0 := kc _ _ B.out c0
      have k0 : (K : Int) < (q : Int) := by omega
      have HR := hideD (HF.out zs[K] (List.getElem_mem hl) wr B.out)
      have hnext : (zs.take (K + 1)).any P = ((zs.take K).any P || P zs[K]) := by
        rw [List.take_add_one, List.getElem?_eq_getElem hl, List.any_append]
        simp
      simp only [pvF] at c0
      cases hp : P zs[K] with
      | true =>
        rw [hp] at HR
        have HAll : Hid (decide (0 ≤ (K : Int)) = zs.any P) := by
          show _ = _
          rw [decide_eq_true (by omega)]
          exact (List.any_eq_true.2 ⟨zs[K], List.getElem_mem hl, hp⟩).symm
        clear hnext hp
        generalize zs[K].1 = b at *
        go_wp2_with fail
        refine HR.out.mono ?_
        rintro e w1 ⟨rfl, hb⟩
        have B1 := hideD (beyondD B.out hb)
        clear hb B HR c0
        go_wp2_with fail
        go_ret
        exact ⟨⟨_, rfl, HAll.out⟩, B1.out⟩
      | false =>
        rw [hp] at HR
        have HN : Hid ((zs.take (K + 1)).any P = false) := by
          show _ = _
          rw [hnext, HA.out, hp]
          rfl
        clear hnext hp
        generalize zs[K].1 = b at *
        go_wp2_with fail
        refine HR.out.mono ?_
        rintro e w1 ⟨rfl, hb⟩
        have B1 := hideD (beyondD B.out hb)
        clear hb B HR c0
        go_wp2_with fail
        go_roundw
        case rel => exact ⟨K + 1, by omega, by go_num, HN, B1⟩
        case measure => simp [intOf]; omega
    · have k0 : ¬ (K : Int) < (q : Int) := by omega
      have HAll : Hid (decide (0 ≤ (-1 : Int)) = zs.any P) := by
        show _ = _
        have h := HA.out
        rw [List.take_of_length_le (by rw [HQ.out]; omega)] at h
        rw [h]
        rfl
      go_wp2_with fail
      go_ret
      exact ⟨⟨_, rfl, HAll.out⟩, B.out⟩
theorem cfunH_any (bx : Nat) (ad : Option Addr) (cap q : Nat) (zs : List ZR) (P : ZR → Bool) (w : World) (hq : zs.length = q) (q1 : q ≤ 9223372036854775807) (hV : ZRowAt w ad zs)
    (hF : ∀ z ∈ zs, ∀ W, Below w.heap.size w W → Calls Tryz.prog 45 #[.pointer (some ⟨z.1, 0, none⟩), .pointer (some ⟨bx, 0, none⟩)] W fun e w' => e = .returned (.bool (P z)) ∧ Below W.heap.size W w') :
    Calls Tryz.prog 28 #[.slice ad q cap, .func (.func 45) #[] #[.pointer (some ⟨bx, 0, none⟩)]] w fun e w' => e = .returned (.bool (zs.any P)) ∧ Below w.heap.size w w' := by
  have H := hideD (ifunH_any bx ad cap q zs P w hq q1 hV hF)
  obtain ⟨R, hR⟩ : ∃ R, zs.any P = R := ⟨_, rfl⟩
  rw [hR] at H ⊢
  clear hV hq hF hR
  go_enter Tryz.func28, Tryz.ntmps28
  go_wp2_with fail
  refine H.out.mono ?_
  rintro e w1 ⟨⟨i, rfl, rfl⟩, hb⟩
  have HB := hideD hb
  clear hb H
  go_wp2_with fail
  go_ret
  exact ⟨rfl, HB.out⟩
/-- Has of the program: any of its zones. -/
theorem fhas_any (fb n m : Nat) (zs : List ZR) (va : Option Addr) (vq vc : Nat) (P : ZR → Bool) (w : World) (hf : FedAt w fb n m zs)
    (hF : ∀ z ∈ zs, ∀ W, Below w.heap.size w W → Calls Tryz.prog 18 #[.pointer (some ⟨z.1, 0, none⟩), .slice va vq vc] W fun e w' => e = .returned (.bool (P z)) ∧ Below W.heap.size W w') :
    Calls Tryz.prog 12 #[.pointer (some ⟨fb, 0, none⟩), .slice va vq vc] w fun e w' => e = .returned (.bool (zs.any P)) ∧ Below w.heap.size w w' := by
  obtain ⟨v, c1, hown⟩ := hf.c1
  obtain ⟨ad, cap, rfl⟩ := own_sl hown
  have B1 := below_one w (.cells #[.slice va vq vc] 27)
  have HW : Hid (Calls Tryz.prog 28 #[.slice ad zs.length cap, .func (.func 45) #[] #[.pointer (some ⟨w.heap.size, 0, none⟩)]] (w.alloc (.cells #[.slice va vq vc] 27)) fun e w' => e = .returned (.bool (zs.any P)) ∧ Below (w.alloc (.cells #[.slice va vq vc] 27)).heap.size (w.alloc (.cells #[.slice va vq vc] 27)) w') := by
    refine cfunH_any w.heap.size ad cap zs.length zs P _ rfl (by have := hf.len; omega) (fun K hK => ?_) (fun z hz W hW => ?_)
    · obtain ⟨g, h1, h2⟩ := own_zrow hown K hK
      exact ⟨g, h1, kc _ _ B1 h2⟩
    · have H := hideD (hF z hz W (B1.trans (hW.mono (by simp))))
      have cv : W.cell? ⟨w.heap.size, 0, none⟩ = some (.slice va vq vc) := kc _ _ hW (by simp [go_sem])
      clear hF hW hf hown c1
      go_enter Tryz.func45, Tryz.ntmps45
      go_wp2_with fail
      refine H.out.mono ?_
      rintro e w1 ⟨rfl, hb⟩
      have HB := hideD hb
      clear hb H
      go_wp2_with fail
      go_ret
      exact ⟨rfl, HB.out⟩
  have c1 := kc _ _ B1 c1
  have HB1 := hideD B1
  obtain ⟨R, hR⟩ : ∃ R, zs.any P = R := ⟨_, rfl⟩
  rw [hR] at HW ⊢
  clear hf hF hown B1 hR
  go_enter Tryz.func12, Tryz.ntmps12
  go_wp2_with fail
  refine HW.out.mono ?_
  rintro e w1 ⟨rfl, hb⟩
  have HB := hideD (beyondD HB1.out hb)
  clear hb HW HB1
  go_wp2_with fail
  go_ret
  exact ⟨rfl, HB.out⟩
end Go.Proofs.YtnfkmpickmonoaaGreat
