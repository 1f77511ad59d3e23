/-
  fed.Fewer.
-/
import Derived.Test.YtnfkmpickmonoaaGreatQ27
import Derived.Test.YtnfkmpickmonoaaGreatQ4
namespace Go.Proofs.YtnfkmpickmonoaaGreat
open Go.RowKit Go.Shelf
set_option linter.unusedVariables false
set_option maxRecDepth 100000
attribute [local go_sem] Oper.semAt_some
def atR (cs : List Row) (k : Nat) : Row := (cs[k]?).getD (fun _ => 0)
/-- Does another zone include the one at a place? -/
def covS (m : Nat) (cs : List Row) (at_ k : Nat) : Bool := nless (atR cs k) (atR cs at_) m && (decide (k < at_) || !nless (atR cs at_) (atR cs k) m)
def covK (m : Nat) (cs : List Row) (at_ : Nat) : Nat → Bool
  | 0 => false
  | K + 1 => covK m cs at_ K || covS m cs at_ K
theorem covK_true {m : Nat} {cs : List Row} {at_ : Nat} : ∀ {k : Nat} (K : Nat), k ≤ K → covK m cs at_ k = true → covK m cs at_ K = true := by
  intro k K h e
  induction K with
  | zero => obtain rfl : k = 0 := by omega
            exact e
  | succ K ih =>
    by_cases q : k = K + 1
    · subst q; exact e
    · simp [covK, ih (by omega)]
theorem atR_of {zs : List ZR} {k : Nat} {z : ZR} (h : k < zs.length) (e : zs[k] = z) : atR (zs.map (·.2)) k = z.2 := by
  unfold atR
  rw [List.getElem?_map, List.getElem?_eq_getElem h, e]
  rfl
set_option maxHeartbeats 2000000 in
theorem covers_any (fb n m at_ : Nat) (zs : List ZR) (w : World) (hn : n ≤ 8) (hm : m = (n + 1) * (n + 1)) (hf : FedAt w fb n m zs) (ha : at_ < zs.length) :
    Calls Tryz.prog 53 #[.pointer (some ⟨fb, 0, none⟩), .int .i64 (at_ : Int)] w fun e w' => e = .returned (.bool (covK m (zs.map (·.2)) at_ zs.length)) ∧ Below w.heap.size w w' := by
  obtain ⟨v, c1, hown⟩ := hf.c1
  obtain ⟨q, hq⟩ : ∃ q, zs.length = q := ⟨_, rfl⟩
  obtain ⟨ad, cap, rfl⟩ := own_sl hown
  rw [hq] at c1 ⊢
  obtain ⟨g, cap', e1, hcell⟩ := owns_elem hown (by intro e; rw [e] at ha; cases ha)
  injection e1 with e1 e2 e3
  subst e1
  clear e3 e2
  have q4 : q ≤ 4096 := by rw [← hq]; exact hf.len
  obtain ⟨zk, ez⟩ : ∃ zk, zs[at_] = zk := ⟨_, rfl⟩
  obtain ⟨zk, ca⟩ := zk
  have hel := hcell at_ ha
  rw [ez] at hel
  simp only [pvF] at hel
  have HZA := hideD (hf.zones _ (List.getElem_mem ha))
  rw [ez] at HZA
  have EA := hideD (atR_of ha ez)
  have HC := hideD hcell
  have FD := hideD hf
  have HQ := hideD hq
  have HN := hideD hn
  have HM := hideD hm
  have a0 : (at_ : Int) < (q : Int) := by omega
  clear hcell hf hq hn hm hown ez ha
  go_enter Tryz.func53, Tryz.ntmps53
  go_wp2_with fail
  go_loopw [20] (fun i wr => ∃ (K : Nat), K ≤ q ∧ i = .int .i64 (K : Int) ∧ Hid (covK m (zs.map (·.2)) at_ K = false) ∧ Hid (Below w.heap.size w wr)) (fun i _ => q - (intOf i).toNat)
  case atStart => exact ⟨0, Nat.zero_le _, rfl, rfl, Below.refl _ _⟩
  case round =>
    obtain ⟨K, hK, rfl, HI, HB⟩ := hrel
    have hwr := HB.out.size
    by_cases ck : K < q
    · have k0 : (K : Int) < (q : Int) := by omega
      have hlz : K < zs.length := by have := HQ.out; omega
      obtain ⟨zk2, ez⟩ : ∃ zk, zs[K] = zk := ⟨_, rfl⟩
      obtain ⟨zk2, ck7⟩ := zk2
      have hel2 := kc _ _ HB.out (HC.out K hlz)
      rw [ez] at hel2
      simp only [pvF] at hel2
      have HZK := hideD (FD.out.zones _ (List.getElem_mem hlz))
      rw [ez] at HZK
      have EK := atR_of hlz ez
      have H1 := hideD (includes_some zk2 zk n ck7 ca wr (HZK.out.1.past HB.out) (HZA.out.1.past HB.out) HN.out (decide_eq_false (by have := HZA.out.2.2; omega)))
      have H2 := hideD (fun W (h : Below wr.heap.size wr W) => includes_some zk zk2 n ca ck7 W ((HZA.out.1.past HB.out).past h) ((HZK.out.1.past HB.out).past h) HN.out (decide_eq_false (by have := HZK.out.2.2; omega)))
      rw [← HM.out] at H1 H2
      have EN : Hid (covK m (zs.map (·.2)) at_ (K + 1) = (nless ck7 ca m && (decide (K < at_) || !nless ca ck7 m))) := by
        show _ = _
        rw [covK, HI.out, Bool.false_or, covS, EK, EA.out]
      have ET : Hid (covK m (zs.map (·.2)) at_ (K + 1) = true → covK m (zs.map (·.2)) at_ q = true) := covK_true q (by omega)
      clear hlz ez HZK EK HI
      generalize nless ck7 ca m = b1 at *
      generalize nless ca ck7 m = b2 at *
      cases b1 with
      | false =>
        go_wp2_with fail
        refine H1.out.mono ?_
        rintro e W7 ⟨rfl, hb⟩
        have B7 := hideD (HB.out.trans (hb.mono hwr))
        clear hb H1 H2 hel2
        go_wp2_with fail
        go_roundw
        case rel => exact ⟨K + 1, by omega, by go_num, EN.out, B7⟩
        case measure => simp [intOf]; omega
      | true =>
        by_cases ca' : K < at_
        · have a1 : (K : Int) < (at_ : Int) := by omega
          have R : Hid (covK m (zs.map (·.2)) at_ q = true) := ET.out (by rw [EN.out, decide_eq_true ca']; rfl)
          clear EN ET
          go_wp2_with fail
          refine H1.out.mono ?_
          rintro e W7 ⟨rfl, hb⟩
          have B7 := hideD (HB.out.trans (hb.mono hwr))
          clear hb H1 H2 hel2
          go_wp2_with fail
          go_ret
          exact ⟨by rw [R.out]; rfl, B7.out⟩
        · have a1 : ¬ (K : Int) < (at_ : Int) := by omega
          have R : Hid (b2 = false → covK m (zs.map (·.2)) at_ q = true) := fun e => ET.out (by rw [EN.out, e]; simp)
          have R2 : Hid (b2 = true → covK m (zs.map (·.2)) at_ (K + 1) = false) := fun e => by rw [EN.out, e, decide_eq_false ca']; rfl
          clear EN ET
          go_wp2_with fail
          refine H1.out.mono ?_
          rintro e W7 ⟨rfl, hb⟩
          have HW7 := hideD (H2.out W7 hb)
          have B7 := hideD (HB.out.trans (hb.mono hwr))
          clear hb H1 H2 hel2
          go_wp2_with fail
          refine HW7.out.mono ?_
          rintro e W8 ⟨rfl, hb⟩
          have B8 := hideD (B7.out.trans (hb.mono B7.out.size))
          clear hb HW7
          cases b2 with
          | true =>
            have R3 := hideD (R2.out rfl)
            clear R R2
            go_wp2_with fail
            go_roundw
            case rel => exact ⟨K + 1, by omega, by go_num, R3, B8⟩
            case measure => simp [intOf]; omega
          | false =>
            have R3 := hideD (R.out rfl)
            clear R R2
            go_wp2_with fail
            go_ret
            exact ⟨by rw [R3.out]; rfl, B8.out⟩
    · have k0 : ¬ (K : Int) < (q : Int) := by omega
      have F : Hid (covK m (zs.map (·.2)) at_ q = false) := by
        obtain rfl : K = q := by omega
        exact HI.out
      clear HI
      go_wp2_with fail
      go_ret
      exact ⟨by rw [F.out]; rfl, HB.out⟩
/-- Those that no other one includes. -/
def fewK (m : Nat) (cs : List Row) : Nat → List Row
  | 0 => []
  | K + 1 => if covK m cs K cs.length = true then fewK m cs K else fewK m cs K ++ [atR cs K]
def FewOut (H n m : Nat) (s : List Row) (e : Ending) (W' : World) : Prop := ∃ f2 rs, H ≤ f2 ∧ e = .returned (.pointer (some ⟨f2, 0, none⟩)) ∧ FedAt W' f2 n m rs ∧ rs.map (·.2) = s
set_option maxHeartbeats 4000000 in
theorem ffewer_any (fb n m : Nat) (zs : List ZR) (w : World) (hn : n ≤ 8) (hm : m = (n + 1) * (n + 1)) (hf : FedAt w fb n m zs) :
    Calls Tryz.prog 20 #[.pointer (some ⟨fb, 0, none⟩)] w fun e w' => FewOut w.heap.size n m (fewK m (zs.map (·.2)) zs.length) e w' ∧ Below w.heap.size w w' := by
  obtain ⟨v, c1, hown⟩ := hf.c1
  obtain ⟨q, hq⟩ : ∃ q, zs.length = q := ⟨_, rfl⟩
  obtain ⟨ad, cap, rfl⟩ := own_sl hown
  have hq0 := hq
  rw [hq] at c1 ⊢
  have c0 := hf.c0
  have FD := hideD hf
  have HQ := hideD hq
  have HO := hideD hown
  have HN := hideD hn
  have HM := hideD hm
  have q4 : q ≤ 4096 := by rw [← hq]; exact hf.len
  clear hf hq hown hn hm hq0
  have I0 : Hid (QI w.heap.size w.heap.size n m (fewK m (zs.map (·.2)) 0) w (w.alloc (.cells #[.int .i64 (n : Int), .slice none 0 0] 65)) [] (.slice none 0 0)) :=
    ⟨⟨by simp [go_sem], by simp [go_sem], by simp [go_sem], World.ownsRow_nil _ _ _ _, by simp [Value.ownBlock]⟩, rfl, by simp, below_one w _, Nat.le_refl _⟩
  have d2 := kc _ _ (below_one w (.cells #[.int .i64 (n : Int), .slice none 0 0] 65)) c1
  clear c1
  go_enter Tryz.func20, Tryz.ntmps20
  go_wp2_with fail
  go_loopw [20] (fun i wr => ∃ (K : Nat) (rs : List ZR) (v : Value), K ≤ q ∧ i = .int .i64 (K : Int) ∧ rs.length ≤ K ∧ Hid (QI w.heap.size w.heap.size n m (fewK m (zs.map (·.2)) K) w wr rs v)) (fun i _ => q - (intOf i).toNat)
  case atStart => exact ⟨0, [], _, Nat.zero_le _, rfl, Nat.le_refl _, I0⟩
  case round =>
    obtain ⟨K, rs, v, hK, rfl, hlr, HI⟩ := hrel
    have hwr := HI.out.below.size
    by_cases ck : K < q
    · have k0 : (K : Int) < (q : Int) := by omega
      have hlz : K < zs.length := by have := HQ.out; omega
      obtain ⟨g, cap', e1, hcell⟩ := owns_elem HO.out (by intro e; rw [e] at hlz; cases hlz)
      injection e1 with e1 e2 e3
      subst e1
      clear e3
      obtain ⟨zk, ez⟩ : ∃ zk, zs[K] = zk := ⟨_, rfl⟩
      obtain ⟨zk, ck7⟩ := zk
      have hel := kc _ _ HI.out.below (hcell K hlz)
      rw [ez] at hel
      simp only [pvF] at hel
      have HZK := hideD (FD.out.zones _ (List.getElem_mem hlz))
      rw [ez] at HZK
      have EK := atR_of hlz ez
      have HV := hideD (covers_any fb n m K zs wr HN.out HM.out (FD.out.past HI.out.below) hlz)
      have EN : Hid (fewK m (zs.map (·.2)) (K + 1) = if covK m (zs.map (·.2)) K zs.length = true then fewK m (zs.map (·.2)) K else fewK m (zs.map (·.2)) K ++ [ck7]) := by
        show _ = _
        rw [fewK, List.length_map, EK]
      rw [HQ.out] at HV EN
      clear hcell hlz ez EK
      cases hc : covK m (zs.map (·.2)) K q with
      | true =>
        rw [hc] at HV EN
        have E2 : Hid (fewK m (zs.map (·.2)) (K + 1) = fewK m (zs.map (·.2)) K) := by
          show _ = _
          rw [EN.out, if_pos rfl]
        clear hc EN HZK
        go_wp2_with fail
        refine HV.out.mono ?_
        rintro e W7 ⟨rfl, hb⟩
        have I7 : Hid (QI w.heap.size w.heap.size n m (fewK m (zs.map (·.2)) (K + 1)) w W7 rs v) := by
          show QI _ _ _ _ _ _ _ _ _
          rw [E2.out]
          exact HI.out.past hb hwr
        clear hb HV HI hel E2
        go_wp2_with fail
        go_roundw
        case rel => exact ⟨K + 1, rs, v, by omega, by go_num, by omega, I7⟩
        case measure => simp [intOf]; omega
      | false =>
        rw [hc] at HV EN
        have E2 : Hid (fewK m (zs.map (·.2)) (K + 1) = fewK m (zs.map (·.2)) K ++ [ck7]) := by
          show _ = _
          rw [EN.out, if_neg (by simp)]
        clear hc EN
        go_wp2_with fail
        refine HV.out.mono ?_
        rintro e W7 ⟨rfl, hb⟩
        have N7 := HI.out.past hb hwr
        have hw7 : w.heap.size ≤ W7.heap.size := N7.below.size
        have hzz := HZK.out.1.past N7.below
        have HA2 := hideD (fadd_any w.heap.size w.heap.size n zk ck7 rs v W7 HN.out hzz N7.row (by omega) hw7)
        have sfe := row_safe N7.row (b := zk) HZK.out.1.lt (Nat.le_refl _)
        have z4 : ¬ ck7 0 < 1 := by have := HZK.out.2.2; omega
        have FM : Hid (∀ W8 v2, RowF W8 w.heap.size w.heap.size n (rs ++ [(zk, ck7)]) v2 → Grew w.heap.size v v2 W7 W8 → QI w.heap.size w.heap.size n m (fewK m (zs.map (·.2)) (K + 1)) w W8 (rs ++ [(zk, ck7)]) v2) := fun W8 v2 h2 h3 => by
          rw [E2.out]
          exact N7.more hzz HZK.out.2.1 sfe z4 h2 h3 hw7
        clear hb HV HI hel E2 N7 sfe hzz HZK
        go_wp2_with fail
        refine HA2.out.mono ?_
        rintro e W8 (⟨h1, -, -⟩ | ⟨h1, h2, -, -⟩ | ⟨h1, h2, rfl, v2, hR2, hG⟩)
        · omega
        · omega
        · have F := hideD (FM.out W8 v2 hR2 hG)
          clear FM h1 h2 hR2 hG HA2
          go_wp2_with fail
          go_roundw
          case rel => exact ⟨K + 1, _, v2, by omega, by go_num, by simp; omega, F⟩
          case measure => simp [intOf]; omega
    · have k0 : ¬ (K : Int) < (q : Int) := by omega
      have eK : K = q := by omega
      have N := HI.out
      have r0 := N.row.c0
      have r1 := N.row.c1
      have FE := hideD (N.done (by omega))
      have HT := hideD N.told
      rw [eK] at HT
      have HB := hideD (N.below.trans ((below_one wr (.cells #[.int .i64 (n : Int), v] 67)).mono hwr))
      clear N HI eK
      go_wp2_with fail
      go_ret
      exact ⟨⟨_, rs, hwr, rfl, FE.out, HT.out⟩, HB.out⟩
end Go.Proofs.YtnfkmpickmonoaaGreat
