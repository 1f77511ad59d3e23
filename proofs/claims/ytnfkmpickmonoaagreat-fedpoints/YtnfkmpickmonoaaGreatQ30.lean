/-
  fed: New by the document.
-/
import Derived.OrdersHeld
import Derived.Deep.RegionHeld
import Derived.Test.YtnfkmpickmonoaaGreatQ29
namespace Go.Proofs.YtnfkmpickmonoaaGreat
open Go.RowKit Go.Shelf
set_option linter.unusedVariables false
set_option maxRecDepth 100000
attribute [local go_sem] Oper.semAt_some
theorem info_rzp : (Tryz.prog.info? 44).map (fun i => (i.zero, i.size, i.bytes)) = some (some (.pointer none), 1, 8) := by kernel_rfl
def RNewOut (n m : Nat) (ps : List RPZ7) (e : Ending) (W : World) : Prop := ∃ fb zs, e = .returned (.tuple #[.pointer (some ⟨fb, 0, none⟩), .int .i64 0]) ∧ RFedAt W fb n m zs ∧ zs.map some = ps.filter (fun p => (p.map fun z => z.2.getD 0 0 != 1) == some false)
/-- A union that grows. -/
structure RNI (H fb n : Nat) (ps : List RPZ7) (w W : World) (zs : List RZR) (v : Value) : Prop where
  c0 : W.cell? ⟨fb, 0, none⟩ = some (.int .i64 n)
  c1 : W.cell? ⟨fb, 1, none⟩ = some v
  fr : W.frozen? ⟨fb, 1, none⟩ = false
  own : W.ownsRow H 44 1 v zs.length (zs.map pvR7)
  of : ∀ e ∈ zs, some e ∈ ps ∧ e.2.getD 0 0 = 1
  ne : v.ownBlock ≠ some fb
  below : Below H w W
  hb : H ≤ fb
/-- A union with one zone more, ahead of the store. -/
structure RGR (H n g K q zb : Nat) (ps : List RPZ7) (z : RZR) (w W : World) (zs : List RZR) (v : Value) : Prop where
  c1 : ∃ u, W.cell? ⟨H, 1, none⟩ = some u
  fr : W.frozen? ⟨H, 1, none⟩ = false
  own : W.ownsRow H 44 1 v (zs.length + 1) (zs.map pvR7 ++ [pvR7 z])
  held : W.cell? ⟨g, K, none⟩ = some (.pointer (some ⟨zb, 0, none⟩))
  done : RNI H H n ps w (W.setCell ⟨H, 1, none⟩ v) (zs ++ [z]) v ∧ (zs ++ [z]).map some = (ps.take (K + 1)).filter (fun p => (p.map fun z => z.2.getD 0 0 != 1) == some false) ∧ (W.setCell ⟨H, 1, none⟩ v).cell? ⟨g, K, none⟩ = some (.pointer (some ⟨zb, 0, none⟩))
set_option maxHeartbeats 4000000 in
theorem rgr_of {H n g K q : Nat} {ps : List RPZ7} {z : RZR} {w A W : World} {zs : List RZR} {v v' : Value} (h : RNI H H n ps w A zs v) (ht : zs.map some = (ps.take K).filter (fun p => (p.map fun z => z.2.getD 0 0 != 1) == some false)) (hnext : ps.take (K + 1) = ps.take K ++ [some z]) (hc : (z.2.getD 0 0 != 1) = false) (hmem : some z ∈ ps) (hgl : g < H) (hg : A.drew.cell? ⟨g, K, none⟩ = some (.pointer (some ⟨z.1, 0, none⟩)))
    (hown : W.ownsRow H 44 1 v' (zs.length + 1) (zs.map pvR7 ++ [.pointer (some ⟨z.1, 0, none⟩)])) (hgr : (A.drew.alloc (.cells #[.pointer (some ⟨z.1, 0, none⟩)] 44)).grownBy W v.ownBlock) : RGR H n g K q z.1 ps z w W zs v' := by
  have lt := World.block_lt_of_cell? _ _ h.c1
  simp only at lt
  have bA : Below A.heap.size A (A.drew.alloc (.cells #[.pointer (some ⟨z.1, 0, none⟩)] 44)) := ((Below.refl A.heap.size A).drew).alloc (Nat.le_refl _) _
  have hA : H ≤ A.heap.size := by omega
  have sA : A.heap.size ≤ (A.drew.alloc (.cells #[.pointer (some ⟨z.1, 0, none⟩)] 44)).heap.size := by simp
  have ow : ∀ k, v.ownBlock = some k → H ≤ k := fun k e => by
    rcases h.own.2 with ⟨q0, -⟩ | ⟨g0, cp, cur, h1, h2, -⟩
    · rw [q0] at e; cases e
    · rw [h1] at e
      injection e with e
      subst e
      exact h2
  have b2 : Below H w W := (h.below.trans (bA.mono hA)).grown hgr (by omega) ow
  have c0 := grown_cell hgr (kc _ _ bA h.c0) h.ne
  have c1 := grown_cell hgr (kc _ _ bA h.c1) h.ne
  have fr := grown_frozen hgr (kc _ _ bA h.c1) (kf _ _ bA h.c1 h.fr) h.ne
  have hg2 : W.cell? ⟨g, K, none⟩ = some (.pointer (some ⟨z.1, 0, none⟩)) := grown_cell hgr (kc _ _ bA (show A.cell? ⟨g, K, none⟩ = _ from hg)) (fun e => by have := ow g e; omega)
  have ne : v'.ownBlock ≠ some H := fun e => by
    rcases hown.2 with ⟨q0, -⟩ | ⟨g0, cp, cur, h1, h2, h3, h4, h5, h6, h7⟩
    · rw [q0] at e; cases e
    · rw [h1] at e
      injection e with e
      simp only at e
      subst e
      have e0 : cur.toList[0]? = (zs.map pvR7 ++ [.pointer (some ⟨z.1, 0, none⟩)])[0]? := by
        have := congrArg (fun l => l[0]?) h7
        simp only [Nat.mul_one] at this
        rw [List.getElem?_take_of_lt (by omega)] at this
        exact this
      have ep : ∃ p, (zs.map pvR7 ++ [.pointer (some ⟨z.1, 0, none⟩)])[0]? = some (.pointer p) := by
        cases zs with
        | nil => exact ⟨_, rfl⟩
        | cons a l => exact ⟨_, rfl⟩
      obtain ⟨p, ep⟩ := ep
      rw [ep] at e0
      have e1 : cur[0]? = some (.pointer p) := by simpa using e0
      have e2 : W.cell? ⟨g0, 0, none⟩ = some (.pointer p) := by simp [World.cell?, h3, e1]
      rw [c0] at e2
      cases e2
  refine ⟨⟨_, c1⟩, fr, hown, hg2, ⟨?_, World.cell?_setCell_same _ _ _ c1, by rw [World.frozen?_setCell]; exact fr, ?_, fun e he => ?_, ne, b2.setCell (p := ⟨H, 1, none⟩) (Nat.le_refl _) _, Nat.le_refl _⟩, ?_, ?_⟩
  · rw [World.cell?_setCell_other _ _ _ _ (by intro e; injection e; omega)]
    exact c0
  · rw [List.length_append, List.map_append]
    exact World.ownsRow.kept hown (grown_set _ _ _) (.inr ne)
  · rcases List.mem_append.1 he with q | q
    · exact h.of e q
    · rw [List.mem_singleton.1 q]
      exact ⟨hmem, by simpa using hc⟩
  · rw [hnext, List.filter_append, ← ht, List.map_append]
    simp only [List.filter_cons, Option.map_some, hc]
    simp
  · rw [World.cell?_setCell_other _ _ _ _ (by intro e; injection e; omega)]
    exact hg2
set_option maxHeartbeats 4000000 in
theorem rnew_any (g cap q n m : Nat) (ps : List RPZ7) (w : World) (hn : n ≤ 8) (hm0 : 0 < m) (hq : ps.length = q) (q1 : q ≤ 4000) (hV : RPRow w (some ⟨g, 0, none⟩) n m ps) (hN : rhasNil ps = false) :
    Calls Tryz.prog 8 #[.int .i64 (n : Int), .slice (some ⟨g, 0, none⟩) q cap] w fun e w' => RNewOut n m ps e w' ∧ Below w.heap.size w w' := by
  obtain ⟨i0, hi, hz0, hz1, hz2⟩ := info_parts info_rzp
  have B1 := hideD (below_one w (.cells #[.int .i64 (n : Int), .slice none 0 0] 69))
  have HV := hideD hV
  have HQ := hideD hq
  have HN := hideD (rhasNil_out hN)
  have HM0 := hideD hm0
  have n8 : (n : Int) ≤ 8 := by omega
  have n0 : ¬ (n : Int) < 0 := by omega
  have n9 : ¬ (8 : Int) < (n : Int) := by omega
  have I0 : Hid (RNI w.heap.size w.heap.size n ps w (w.alloc (.cells #[.int .i64 (n : Int), .slice none 0 0] 69)) [] (.slice none 0 0)) :=
    ⟨by simp [go_sem], by simp [go_sem], by simp [go_sem], World.ownsRow_nil _ _ _ _, by simp, by simp [Value.ownBlock], B1.out, Nat.le_refl _⟩
  have SM : Hid (∀ K (hl : K < ps.length), ∃ z, ps[K] = some z ∧ some z ∈ ps) := fun K hl => by
    have := HN.out _ (List.getElem_mem hl)
    cases e : ps[K] with
    | none => exact absurd e this
    | some z => exact ⟨z, rfl, by rw [← e]; exact List.getElem_mem hl⟩
  have GL : Hid (∀ K, K < ps.length → g < w.heap.size) := fun K hl => by
    obtain ⟨g', e1, c0⟩ := hV.cell K hl
    injection e1 with e1
    injection e1 with e1
    subst e1
    exact World.block_lt_of_cell? _ _ c0
  clear hV hq hN hn hm0
  go_enter Tryz.func8, Tryz.ntmps8
  go_wp2_with fail
  go_loopw [7] (fun i wr => ∃ (K : Nat), K ≤ q ∧ i = .int .i64 (K : Int) ∧ Hid (wr = w.alloc (.cells #[.int .i64 (n : Int), .slice none 0 0] 69))) (fun i _ => q - (intOf i).toNat)
  case atStart => exact ⟨0, Nat.zero_le _, rfl, rfl⟩
  case round =>
    obtain ⟨K, hK, rfl, B⟩ := hrel
    have eB := B.out
    subst eB
    by_cases ck : K < q
    · have hl : K < ps.length := by rw [HQ.out]; exact ck
      obtain ⟨g', e1, c0⟩ := HV.out.cell K hl
      injection e1 with e1
      injection e1 with e1
      subst e1
      have c0 := kc _ _ B1.out c0
      have k0 : (K : Int) < (q : Int) := by omega
      obtain ⟨z, hz, -⟩ := SM.out K hl
      rw [hz] at c0
      simp only [rptr7, Option.map_some] at c0
      clear hz B
      go_wp2_with fail
      go_roundw
      case rel => exact ⟨K + 1, by omega, by go_num, by first | exact rfl | trivial⟩
      case measure => simp [intOf]; omega
    · have k0 : ¬ (K : Int) < (q : Int) := by omega
      clear B
      go_wp2_with fail
      go_loopw [8] (fun i wr => ∃ (K : Nat), K ≤ q ∧ i = .int .i64 (K : Int) ∧ Hid (wr = w.alloc (.cells #[.int .i64 (n : Int), .slice none 0 0] 69))) (fun i _ => q - (intOf i).toNat)
      case atStart => exact ⟨0, Nat.zero_le _, rfl, rfl⟩
      case round =>
        obtain ⟨K, hK, rfl, B⟩ := hrel
        have eB := B.out
        subst eB
        by_cases ck : K < q
        · have hl : K < ps.length := by rw [HQ.out]; exact ck
          obtain ⟨g', e1, c0⟩ := HV.out.cell K hl
          injection e1 with e1
          injection e1 with e1
          subst e1
          have c0 := kc _ _ B1.out c0
          have k0 : (K : Int) < (q : Int) := by omega
          obtain ⟨z, hz, hmem⟩ := SM.out K hl
          rw [hz] at c0
          simp only [rptr7, Option.map_some] at c0
          have HD := hideD (rdim_any ((HV.out.zones z hmem).1.past B1.out))
          clear hz B hmem
          go_wp2_with fail
          refine HD.out.mono ?_
          rintro e w1 ⟨rfl, e1⟩
          obtain rfl := e1.symm
          clear HD e1
          go_wp2_with fail
          go_roundw
          case rel => exact ⟨K + 1, by omega, by go_num, by first | exact rfl | trivial⟩
          case measure => simp [intOf]; omega
        · have k0 : ¬ (K : Int) < (q : Int) := by omega
          clear B
          go_wp2_with fail
          go_loopw [9] (fun i wr => ∃ (K : Nat) (zs : List RZR) (v : Value), K ≤ q ∧ i = .int .i64 (K : Int) ∧ zs.length ≤ K ∧ Hid (RNI w.heap.size w.heap.size n ps w wr zs v ∧ zs.map some = (ps.take K).filter (fun p => (p.map fun z => z.2.getD 0 0 != 1) == some false))) (fun i _ => q - (intOf i).toNat)
          case atStart => exact ⟨0, [], _, Nat.zero_le _, rfl, Nat.le_refl _, I0.out, rfl⟩
          case round =>
            obtain ⟨K, zs, v, hK, rfl, hzl, HI⟩ := hrel
            obtain ⟨ad, cp, rfl⟩ := own_slR HI.out.1.own
            by_cases ck : K < q
            · have hl : K < ps.length := by rw [HQ.out]; exact ck
              obtain ⟨g', e1, c0⟩ := HV.out.cell K hl
              injection e1 with e1
              injection e1 with e1
              subst e1
              have c0 := kc _ _ HI.out.1.below c0
              have k0 : (K : Int) < (q : Int) := by omega
              obtain ⟨z, hz, hmem⟩ := SM.out K hl
              rw [hz] at c0
              simp only [rptr7, Option.map_some] at c0
              have HZ := hideD ((HV.out.zones z hmem).1.past HI.out.1.below)
              have HE := hideD (rempty_any HZ.out (by rw [(HV.out.zones z hmem).2]; exact HM0.out))
              have hnext : ps.take (K + 1) = ps.take K ++ [some z] := by
                rw [List.take_add_one, List.getElem?_eq_getElem hl, hz]
                rfl
              have c1 := HI.out.1.c1
              have l1 : ¬ (4096 : Int) < (zs.length : Int) := by omega
              cases hc : (z.2.getD 0 0 != 1) with
              | true =>
                rw [hc] at HE
                have F : Hid (zs.map some = (ps.take (K + 1)).filter (fun p => (p.map fun z => z.2.getD 0 0 != 1) == some false)) := by
                  show _ = _
                  rw [hnext, List.filter_append, ← HI.out.2]
                  simp only [List.filter_cons, Option.map_some, hc]
                  simp
                have HI1 := hideD HI.out.1
                clear hz hmem hnext hc HI HZ
                go_wp2_with fail
                refine HE.out.mono ?_
                rintro e w1 ⟨rfl, e1⟩
                obtain rfl := e1.symm
                clear HE e1
                go_wp2_with fail
                go_roundw
                case rel => exact ⟨K + 1, zs, _, by omega, by go_num, by omega, HI1.out, F.out⟩
                case measure => simp [intOf]; omega
              | false =>
                rw [hc] at HE
                have HI1 := hideD HI.out.1
                have HT := hideD HI.out.2
                have c0d := hideD c0
                clear HI HZ
                go_wp2_with fail
                refine HE.out.mono ?_
                rintro e w1 ⟨rfl, e1⟩
                obtain rfl := e1.symm
                clear HE e1
                go_wp2_with fail
                refine wp_region_held (S := fun w' => w'.cell? ⟨g, K, none⟩ = some (.pointer (some ⟨z.1, 0, none⟩))) (by kernel_rfl) ?_
                have hHeld : wr.drew.cell? ⟨g, K, none⟩ = some (.pointer (some ⟨z.1, 0, none⟩)) := c0d.out
                refine wpAnyH_take (i := 0) (oi := ⟨_, _, _, _, _, _⟩) (v := ?_) rfl (by kernel_rfl) (by kernel_rfl) (by kernel_rfl) (fun _ _ _ h => h) (Or.inl ⟨by rfl, ?_⟩) (by assumption) ?_
                rotate_left
                · intro w hs1; (try dsimp only at hs1); first | (go_simp; done) | (go_simp; with_reducible rfl)
                try simp only [Act.put, List.setIfInBounds_toArray, List.set_cons_zero, List.set_cons_succ]
                refine wpAnyH_take (i := 1) (oi := ⟨_, _, _, _, _, _⟩) (v := ?_) rfl (by kernel_rfl) (by kernel_rfl) (by kernel_rfl) (fun _ _ _ h => h) (Or.inl ⟨by rfl, ?_⟩) (by assumption) ?_
                rotate_left
                · intro w hs1; (try dsimp only at hs1); first | (go_simp; done) | (go_simp; with_reducible rfl)
                try simp only [Act.put, List.setIfInBounds_toArray, List.set_cons_zero, List.set_cons_succ]
                refine wpAnyH_take (i := 2) (oi := ⟨_, _, _, _, _, _⟩) (v := ?_) rfl (by kernel_rfl) (by kernel_rfl) (by kernel_rfl) (fun _ _ _ h => h) (Or.inl ⟨by rfl, ?_⟩) (by assumption) ?_
                rotate_left
                · intro w hs1; (try dsimp only at hs1); first | (go_simp; done) | (go_simp; with_reducible rfl)
                try simp only [Act.put, List.setIfInBounds_toArray, List.set_cons_zero, List.set_cons_succ]
                refine wpAnyH_take (i := 3) (oi := ⟨_, _, _, _, _, _⟩) (v := ?_) rfl (by kernel_rfl) (by kernel_rfl) (by kernel_rfl) (fun _ _ _ h => h) (Or.inl ⟨by rfl, ?_⟩) (by assumption) ?_
                rotate_left
                · intro w hs1; (try dsimp only at hs1); first | (go_simp; done) | (go_simp; with_reducible rfl)
                try simp only [Act.put, List.setIfInBounds_toArray, List.set_cons_zero, List.set_cons_succ]
                refine wpAnyH_take (i := 5) (oi := ⟨_, _, _, _, _, _⟩) (v := ?_) rfl (by kernel_rfl) (by kernel_rfl) (by kernel_rfl) (fun _ _ _ h => h) (Or.inl ⟨by rfl, ?_⟩) (by assumption) ?_
                rotate_left
                · intro w hs1; (try dsimp only at hs1); first | (go_simp; done) | (go_simp; with_reducible rfl)
                try simp only [Act.put, List.setIfInBounds_toArray, List.set_cons_zero, List.set_cons_succ]
                refine wpAnyH_take (i := 6) (oi := ⟨_, _, _, _, _, _⟩) (v := ?_) rfl (by kernel_rfl) (by kernel_rfl) (by kernel_rfl) (fun _ _ _ h => h) (Or.inl ⟨by rfl, ?_⟩) (by assumption) ?_
                rotate_left
                · intro w hs1; (try dsimp only at hs1); first | (go_simp; done) | (go_simp; with_reducible rfl)
                try simp only [Act.put, List.setIfInBounds_toArray, List.set_cons_zero, List.set_cons_succ]
                refine wpAnyH_take (i := 7) (oi := ⟨_, _, _, _, _, _⟩) (v := ?_) rfl (by kernel_rfl) (by kernel_rfl) (by kernel_rfl) (fun _ _ _ h => h) (Or.inl ⟨by rfl, ?_⟩) (by assumption) ?_
                rotate_left
                · intro w hs1; (try dsimp only at hs1); first | (go_simp; done) | (go_simp; with_reducible rfl)
                try simp only [Act.put, List.setIfInBounds_toArray, List.set_cons_zero, List.set_cons_succ]
                refine wpAnyH_take (i := 8) (oi := ⟨_, _, _, _, _, _⟩) (v := ?_) rfl (by kernel_rfl) (by kernel_rfl) (by kernel_rfl) (fun _ _ _ h => h) (Or.inl ⟨by rfl, ?_⟩) (by assumption) ?_
                rotate_left
                · intro w hs1; (try dsimp only at hs1); first | (go_simp; done) | (go_simp; with_reducible rfl)
                try simp only [Act.put, List.setIfInBounds_toArray, List.set_cons_zero, List.set_cons_succ]
                have c1a := kc _ _ (below_one wr (.cells #[.pointer (some ⟨z.1, 0, none⟩)] 44)) c1
                have hA : w.heap.size ≤ (wr.drew.alloc (.cells #[.pointer (some ⟨z.1, 0, none⟩)] 44)).heap.size := by
                  have := HI1.out.below.size
                  simp
                  omega
                have OA := hideD (show (wr.drew.alloc (.cells #[.pointer (some ⟨z.1, 0, none⟩)] 44)).ownsRow w.heap.size 44 1 (.slice ad zs.length cp) zs.length (zs.map pvR7) from (show wr.drew.ownsRow w.heap.size 44 1 (.slice ad zs.length cp) zs.length (zs.map pvR7) from HI1.out.own).alloc _)
                have hgl : g < w.heap.size := GL.out K hl
                have TL : Hid (∀ v' W2, W2.ownsRow w.heap.size 44 1 v' (zs.length + 1) (zs.map pvR7 ++ [.pointer (some ⟨z.1, 0, none⟩)]) → (wr.drew.alloc (.cells #[.pointer (some ⟨z.1, 0, none⟩)] 44)).grownBy W2 (Value.slice ad zs.length cp).ownBlock → RGR w.heap.size n g K q z.1 ps z w W2 zs v') := fun v' W2 h1 h2 => rgr_of HI1.out HT.out hnext hc hmem hgl c0d.out h1 h2
                refine wpAnyH_ready (rs := [4, 9]) (by kernel_rfl) (by simp) ?_
                refine AllReadyH.cons (o := ⟨_, _, _, _, _, _⟩) rfl (fun KK hK => ?_) (AllReadyH.cons (o := ⟨_, _, _, _, _, _⟩) rfl (fun KK hK => ?_) AllReadyH.nil)
                · go_simp
                  refine hK.out _ _ c0d.out (fun hHeld => ?_)
                  clear hK KK
                  try simp only [Act.put, List.setIfInBounds_toArray, List.set_cons_zero, List.set_cons_succ]
                  refine wpAnyH_ready (rs := [9]) (by kernel_rfl) (by simp) ?_
                  refine AllReadyH.cons (o := ⟨_, _, _, _, _, _⟩) rfl (fun KK hK => ?_) AllReadyH.nil
                  go_simp
                  refine hK.out _ _ (kc _ _ (below_one wr.drew _) c0d.out) (fun hHeld => ?_)
                  clear hK KK
                  try simp only [Act.put, List.setIfInBounds_toArray, List.set_cons_zero, List.set_cons_succ]
                  refine wpAnyH_ready (rs := [10]) (by kernel_rfl) (by simp) ?_
                  refine AllReadyH.cons (o := ⟨_, _, _, _, _, _⟩) rfl (fun KK hK => ?_) AllReadyH.nil
                  refine step_own7 rfl (.tmp 59) (.tmp 64) 31 rfl w.heap.size 44 i0 (.pointer none) 1 8 Tryz.underlying31 hi hz0 hz1 hz2 rfl (by decide) (.slice ad zs.length cp) zs.length (zs.map pvR7) (by simp [Act.eval]) OA.out ⟨wr.heap.size, 0, none⟩ 1 1 [.pointer (some ⟨z.1, 0, none⟩)] (by simp [Act.eval]) rfl (cell_one_new wr.drew _ _) (by simp [Value.oneCell']) (by unfold maxLen; omega) (by omega) hA ?_
                  intro v' W2 hown hgrow
                  have PK := hideD (TL.out v' W2 hown hgrow)
                  clear hown hgrow
                  obtain ⟨ad', cp', rfl⟩ := own_slR PK.out.own
                  obtain ⟨u7, p1⟩ := PK.out.c1
                  have pf := PK.out.fr
                  have ps := PK.out.held
                  refine hK.out _ _ ps (fun hHeld => ?_)
                  clear hK KK
                  try simp only [Act.put, List.setIfInBounds_toArray, List.set_cons_zero, List.set_cons_succ]
                  refine wpAnyH_take (i := 11) (oi := ⟨_, _, _, _, _, _⟩) (v := ?_) rfl (by kernel_rfl) (by kernel_rfl) (by kernel_rfl) (fun _ _ _ h => h) (Or.inl ⟨by rfl, ?_⟩) (by assumption) ?_
                  rotate_left
                  · intro w hs1; (try dsimp only at hs1); first | (go_simp; done) | (go_simp; with_reducible rfl)
                  try simp only [Act.put, List.setIfInBounds_toArray, List.set_cons_zero, List.set_cons_succ]
                  refine wpAnyH_take (i := 12) (oi := ⟨_, _, _, _, _, _⟩) (v := ?_) rfl (by kernel_rfl) (by kernel_rfl) (by kernel_rfl) (fun _ _ _ h => h) (Or.inl ⟨by rfl, ?_⟩) (by assumption) ?_
                  rotate_left
                  · intro w hs1; (try dsimp only at hs1); first | (go_simp; done) | (go_simp; with_reducible rfl)
                  try simp only [Act.put, List.setIfInBounds_toArray, List.set_cons_zero, List.set_cons_succ]
                  refine wpAnyH_ready (rs := [13]) (by kernel_rfl) (by simp) ?_
                  refine AllReadyH.cons (o := ⟨_, _, _, _, _, _⟩) rfl (fun KK hK => ?_) AllReadyH.nil
                  go_simp
                  have PD := hideD PK.out.done
                  refine hK.out _ _ PD.out.2.2 (fun hHeld => ?_)
                  clear hK KK
                  refine wpAnyH_done (by kernel_rfl) ?_ _
                  have p2 := PD.out.1.c1
                  have l2 : ¬ (4096 : Int) < ((zs.length + 1 : Nat) : Int) := by omega
                  go_wp2_with fail
                  go_roundw
                  case rel => exact ⟨K + 1, zs ++ [z], _, by omega, by go_num, by simp; omega, PD.out.1, PD.out.2.1⟩
                  case measure => simp [intOf]; omega
                · go_simp
                  refine hK.out _ _ (kc _ _ (below_one wr.drew _) c0d.out) (fun hHeld => ?_)
                  clear hK KK
                  try simp only [Act.put, List.setIfInBounds_toArray, List.set_cons_zero, List.set_cons_succ]
                  refine wpAnyH_ready (rs := [4]) (by kernel_rfl) (by simp) ?_
                  refine AllReadyH.cons (o := ⟨_, _, _, _, _, _⟩) rfl (fun KK hK => ?_) AllReadyH.nil
                  go_simp
                  refine hK.out _ _ (kc _ _ (below_one wr.drew _) c0d.out) (fun hHeld => ?_)
                  clear hK KK
                  try simp only [Act.put, List.setIfInBounds_toArray, List.set_cons_zero, List.set_cons_succ]
                  refine wpAnyH_ready (rs := [10]) (by kernel_rfl) (by simp) ?_
                  refine AllReadyH.cons (o := ⟨_, _, _, _, _, _⟩) rfl (fun KK hK => ?_) AllReadyH.nil
                  refine step_own7 rfl (.tmp 59) (.tmp 64) 31 rfl w.heap.size 44 i0 (.pointer none) 1 8 Tryz.underlying31 hi hz0 hz1 hz2 rfl (by decide) (.slice ad zs.length cp) zs.length (zs.map pvR7) (by simp [Act.eval]) OA.out ⟨wr.heap.size, 0, none⟩ 1 1 [.pointer (some ⟨z.1, 0, none⟩)] (by simp [Act.eval]) rfl (cell_one_new wr.drew _ _) (by simp [Value.oneCell']) (by unfold maxLen; omega) (by omega) hA ?_
                  intro v' W2 hown hgrow
                  have PK := hideD (TL.out v' W2 hown hgrow)
                  clear hown hgrow
                  obtain ⟨ad', cp', rfl⟩ := own_slR PK.out.own
                  obtain ⟨u7, p1⟩ := PK.out.c1
                  have pf := PK.out.fr
                  have ps := PK.out.held
                  refine hK.out _ _ ps (fun hHeld => ?_)
                  clear hK KK
                  try simp only [Act.put, List.setIfInBounds_toArray, List.set_cons_zero, List.set_cons_succ]
                  refine wpAnyH_take (i := 11) (oi := ⟨_, _, _, _, _, _⟩) (v := ?_) rfl (by kernel_rfl) (by kernel_rfl) (by kernel_rfl) (fun _ _ _ h => h) (Or.inl ⟨by rfl, ?_⟩) (by assumption) ?_
                  rotate_left
                  · intro w hs1; (try dsimp only at hs1); first | (go_simp; done) | (go_simp; with_reducible rfl)
                  try simp only [Act.put, List.setIfInBounds_toArray, List.set_cons_zero, List.set_cons_succ]
                  refine wpAnyH_take (i := 12) (oi := ⟨_, _, _, _, _, _⟩) (v := ?_) rfl (by kernel_rfl) (by kernel_rfl) (by kernel_rfl) (fun _ _ _ h => h) (Or.inl ⟨by rfl, ?_⟩) (by assumption) ?_
                  rotate_left
                  · intro w hs1; (try dsimp only at hs1); first | (go_simp; done) | (go_simp; with_reducible rfl)
                  try simp only [Act.put, List.setIfInBounds_toArray, List.set_cons_zero, List.set_cons_succ]
                  refine wpAnyH_ready (rs := [13]) (by kernel_rfl) (by simp) ?_
                  refine AllReadyH.cons (o := ⟨_, _, _, _, _, _⟩) rfl (fun KK hK => ?_) AllReadyH.nil
                  go_simp
                  have PD := hideD PK.out.done
                  refine hK.out _ _ PD.out.2.2 (fun hHeld => ?_)
                  clear hK KK
                  refine wpAnyH_done (by kernel_rfl) ?_ _
                  have p2 := PD.out.1.c1
                  have l2 : ¬ (4096 : Int) < ((zs.length + 1 : Nat) : Int) := by omega
                  go_wp2_with fail
                  go_roundw
                  case rel => exact ⟨K + 1, zs ++ [z], _, by omega, by go_num, by simp; omega, PD.out.1, PD.out.2.1⟩
                  case measure => simp [intOf]; omega
            · have k0 : ¬ (K : Int) < (q : Int) := by omega
              have eK : ps.take K = ps := List.take_of_length_le (by have := HQ.out; omega)
              have F : Hid (RFedAt wr w.heap.size n m zs ∧ zs.map some = ps.filter (fun p => (p.map fun z => z.2.getD 0 0 != 1) == some false)) := by
                refine ⟨⟨HI.out.1.c0, ⟨_, HI.out.1.c1, HI.out.1.own.1, HI.out.1.own.2.imp id (fun ⟨g, cap, cur, h1, h2, h3⟩ => ⟨g, cap, cur, h1, Nat.zero_le _, h3⟩)⟩, fun e he => ?_, by omega⟩, ?_⟩
                · obtain ⟨h1, h2⟩ := HI.out.1.of e he
                  exact ⟨(HV.out.zones e h1).1.past HI.out.1.below, (HV.out.zones e h1).2, h2⟩
                · rw [HI.out.2, eK]
              have HB := hideD HI.out.1.below
              clear eK HI
              go_wp2_with fail
              refine bodyPost_ret (v := .tuple #[.pointer (some ⟨w.heap.size, 0, none⟩), .int .i64 0]) (by simp [results, Tryz.results8, go_sem]) rfl ?_
              exact ⟨⟨_, zs, rfl, F.out.1, F.out.2⟩, HB.out⟩
end Go.Proofs.YtnfkmpickmonoaaGreat
