/-
  Book.aloneRats.
-/
import Derived.Test.YtondgencdcimjaaGreatZp
import Derived.Test.YtondgencdcimjaaGreatPtAz
namespace Go.Proofs.YtondgencdcimjaaGreat
open Go.RowKit Go.Shelf
set_option linter.unusedVariables false
set_option maxRecDepth 100000
theorem info_rats : (Tryz.prog.info? 22).map (fun i => (i.zero, i.size, i.bytes)) = some (some (.slice none 0 0), 1, 24) := by kernel_rfl
theorem own_types {w : World} {b1 b2 e1 e2 s1 s2 n1 n2 : Nat} {v1 v2 : Value} {xs1 xs2 : List Value} (h1 : w.ownsRow b1 e1 s1 v1 n1 xs1) (h2 : w.ownsRow b2 e2 s2 v2 n2 xs2) (ne : e1 ≠ e2) : v1.ownBlock = none ∨ v1.ownBlock ≠ v2.ownBlock := by
  rcases h1.2 with ⟨rfl, -⟩ | ⟨g1, c1, cur1, rfl, -, k1, -⟩
  · exact .inl rfl
  · right
    rcases h2.2 with ⟨rfl, -⟩ | ⟨g2, c2, cur2, rfl, -, k2, -⟩
    · simp [Value.ownBlock]
    · intro e
      simp [Value.ownBlock] at e
      subst e
      rw [k1] at k2
      injection k2 with k2
      injection k2 with _ k2
      exact ne k2
theorem own_isS {w : World} {b e s n : Nat} {v : Value} {xs : List Value} (h : w.ownsRow b e s v n xs) : ∃ ad cap, v = .slice ad n cap ∧ ∀ g, v.ownBlock = some g → ad = some ⟨g, 0, none⟩ := by
  rcases h.2 with ⟨rfl, rfl⟩ | ⟨g1, c1, cur1, rfl, -⟩
  · exact ⟨_, _, rfl, fun g e => by cases e⟩
  · exact ⟨_, _, rfl, fun g e => by simp [Value.ownBlock] at e; rw [e]⟩
theorem own_some {w : World} {b e s n : Nat} {v : Value} {xs : List Value} (h : w.ownsRow b e s v n xs) (hn : 0 < n) : ∃ g cap, v = .slice (some ⟨g, 0, none⟩) n cap := by
  rcases h.2 with ⟨_, h0⟩ | ⟨g, cap, cur, rfl, _⟩
  · omega
  · exact ⟨g, cap, rfl⟩
set_option maxHeartbeats 4000000 in
theorem aloneRats_any (base N Bk capR : Nat) (V : Nat → Value) (ln O : Nat → Nat) (ad : Option Addr) (w : World) (hL : Lists base N V ln O) (hbase : base ≤ w.heap.size) (hbk : w.cell? ⟨Bk, 5, none⟩ = some (.slice ad N capR)) (nbk : ¬ SB N V Bk)
    (hrow : ∀ i, i < N → ∃ R, ad = some ⟨R, 0, none⟩ ∧ ¬ SB N V R ∧ w.cell? ⟨R, i, none⟩ = some (V i)) (hown : ∀ j, j < N → ∃ xs, OwnR w base (V j) (ln j) xs) :
    Calls Tryz.prog 58 #[.pointer (some ⟨Bk, 0, none⟩)] w fun e w' => e = .returned (.bool true) ∧ KeepS (SB N V) w w' := by
  obtain ⟨i0, hi, hz0, hz1, hz2⟩ := info_parts info_rat
  obtain ⟨j0, hj, hy0, hy1, hy2⟩ := info_parts info_rats
  have nn := hL.nn
  have HB := hideD hbk
  have HR := hideD hrow
  have HO := hideD hown
  have HL := hideD hL
  have HN := hideD nbk
  have HS := hideD hbase
  have hlt : Hid (∀ j h, j < N → (V j).ownBlock = some h → h < w.heap.size) := fun j h hj e => by
    obtain ⟨xs, hx⟩ := hown j hj
    exact own_lt hx e
  clear hbk hrow hown hL nbk hbase
  go_enter Tryz.func58, Tryz.ntmps58
  go_wp2_with fail
  go_loopw [3] (fun s wr => ∃ (K : Nat), K ≤ N ∧ s = .int .i64 (K : Int) ∧ Hid (P1 base N V ln w wr K 0)) (fun s _ => N - (intOf s).toNat)
  case atStart => exact ⟨0, Nat.zero_le _, rfl, P1.start HO.out⟩
  case round =>
    obtain ⟨K, hK, rfl, h1⟩ := hrel
    have b5 := h1.out.keep.cell HN.out HB.out
    by_cases ck : K < N
    · obtain ⟨R, rfl, nr, cr⟩ := HR.out K ck
      have cr := h1.out.keep.cell nr cr
      obtain ⟨xs, ox, -⟩ := h1.out.own K ck
      obtain ⟨av, cv, eV, -⟩ := own_isS ox
      rw [eV] at cr
      have k0 : (K : Int) < (N : Int) := by omega
      have k1 : (0 : Int) ≤ (K : Int) := by omega
      have l1 : ln K ≤ 140737488355328 := by have := HL.out.le K ck; omega
      have Nr := hideD nr
      have EV := hideD eV
      clear ox eV nr xs
      obtain ⟨wb, hwb⟩ : ∃ wb, wb = wr := ⟨_, rfl⟩
      rw [← hwb] at h1 b5 cr ⊢
      clear hwb wr
      go_wp2_with fail
      go_loopw [4] (fun s wq => ∃ (k : Nat), k ≤ ln K ∧ s = .int .i64 (k : Int) ∧ Hid (P1 base N V ln w wq K k)) (fun s _ => ln K - (intOf s).toNat)
      case atStart => exact ⟨0, Nat.zero_le _, rfl, h1⟩
      case round =>
        obtain ⟨k, hk, rfl, h2⟩ := hrel
        have b5 := h2.out.keep.cell HN.out HB.out
        obtain ⟨R', eR, -, cr⟩ := HR.out K ck
        injection eR with eR
        injection eR with eR
        subst eR
        have cr := h2.out.keep.cell Nr.out cr
        rw [EV.out] at cr
        by_cases cl : k < ln K
        · obtain ⟨xs, ox, -⟩ := h2.out.own K ck
          obtain ⟨g, cap', eV⟩ := own_some ox (by omega)
          rw [eV] at ox
          have eV' := EV.out.symm.trans eV
          injection eV' with e1 e2 e3
          subst e1 e3
          have c0 := ox.cellAt (k * 2) (by omega)
          have c1 := ox.cellAt (k * 2 + 1) (by omega)
          have f0 := ox.frozenAt (k * 2)
          have f1 := ox.frozenAt (k * 2 + 1)
          obtain ⟨x0, e0⟩ : ∃ x0, xs[k * 2]? = some x0 := ⟨_, List.getElem?_eq_getElem (by rw [ox.1]; omega)⟩
          obtain ⟨x1, e1⟩ : ∃ x1, xs[k * 2 + 1]? = some x1 := ⟨_, List.getElem?_eq_getElem (by rw [ox.1]; omega)⟩
          rw [e0] at c0
          rw [e1] at c1
          have k2 : (k : Int) < (ln K : Int) := by omega
          have k3 : (0 : Int) ≤ (k : Int) := by omega
          have nx := hideD (h2.out.put HL.out ck cl eV)
          clear ox eV e0 e1 xs h2
          go_wp2_with fail
          go_roundw
          case rel => exact ⟨k + 1, by omega, by go_num, nx⟩
          case measure => simp [intOf]; omega
        · have ek : k = ln K := by omega
          have k2 : ¬ (k : Int) < (ln K : Int) := by omega
          have nx := hideD (h2.out.next (by omega))
          clear h2
          go_wp2_with fail
          go_roundw
          case rel => exact ⟨K + 1, by omega, by go_num, nx⟩
          case measure => simp [intOf]; omega
    · have eK : K = N := by omega
      have k0 : ¬ (K : Int) < (N : Int) := by omega
      rw [eK] at h1
      have h2 := hideD (P2.start HL.out hlt.out h1.out)
      clear eK h1
      go_wp2_with fail
      go_loopw [5, 6] (fun a s wr => ∃ (K : Nat) (v : Value) (Gs : List Value) (O' : Nat → Nat), K ≤ N ∧ a = v ∧ s = .int .i64 (K : Int) ∧ Hid (wr.ownsRow w.heap.size 22 1 v K Gs) ∧ Hid (P2 base N V ln w wr K K Gs O')) (fun _ s _ => N - (intOf s).toNat)
      case atStart => exact ⟨0, _, [], O, Nat.zero_le _, rfl, rfl, World.ownsRow_nil _ _ _ _, h2⟩
      case round =>
        obtain ⟨K, v, Gs, O', hK, hv, rfl, ho, h2⟩ := hrel
        replace hv := hv.symm
        subst hv
        have b5 := h2.out.keep.cell HN.out HB.out
        by_cases ck : K < N
        · obtain ⟨R, rfl, nr, cr⟩ := HR.out K ck
          have cr := h2.out.keep.cell nr cr
          have k0 : (K : Int) < (N : Int) := by omega
          have k1 : (0 : Int) ≤ (K : Int) := by omega
          have l1 : (ln K + 20) * 16 ≤ 140737488355328 := HL.out.le K ck
          have h3 := hideD (h2.out.enter ck)
          clear nr h2
          obtain ⟨wb, hwb⟩ : ∃ wb, wb = wr := ⟨_, rfl⟩
          rw [← hwb] at h3 b5 cr ho ⊢
          clear hwb wr
          go_wp2_with fail
          go_loopw [7, 8] (fun g s wq => ∃ (k : Nat) (v' : Value) (O'' : Nat → Nat), k ≤ 20 ∧ g = v' ∧ s = .int .i64 (k : Int) ∧ Hid (wq.ownsRow w.heap.size 22 1 v K Gs) ∧ Hid (P2 base N V ln w wq K (K + 1) Gs O'' ∧ Cur base K (ln K + k) wq v' O'' ∧ ∀ b, v'.ownBlock = some b → SB N V b ∨ w.heap.size ≤ b)) (fun _ s _ => 20 - (intOf s).toNat)
          case atStart => exact ⟨0, _, O', by omega, rfl, rfl, ho, h3⟩
          case round =>
            obtain ⟨k, v', O'', hk, hv, rfl, ho2, h4⟩ := hrel
            replace hv := hv.symm
            subst hv
            by_cases cl : k < 20
            · have k2 : (k : Int) < 20 := by omega
              obtain ⟨p2, cu, sb⟩ := h4.out
              have hbs : base ≤ wr.heap.size := Nat.le_trans HS.out p2.keep.size
              clear h4
              go_wp2_with (at_builtin; refine wp_app_two _ rfl _ _ 22 rfl base 24 i0 (.agg #[.int .i64 0, .int .i64 0]) 2 16 Tryz.underlying22 hi hz0 hz1 hz2 rfl (by decide) v' (ln K + k) _ rfl (cu.own.alloc _) _ 1 [.int .i64 (-9000 - (K : Int)), .int .i64 78] rfl rfl (fun j u h => two_news _ _ _ _ _ rfl j u h) (by simp [Value.oneCell']) (by unfold maxLen; omega) (by omega) (by simp; omega) ?_; intro v3 w7 hown hc)
              have own' : OwnR w7 base v3 (ln K + k + 1) (marksR K (ln K + k + 1)) := by rw [marksR_succ]; exact hown
              obtain ⟨O3, q1, q2, q3⟩ := P2.grow ck (p2.alloc _) ⟨cu.own.alloc _, cu.ow⟩ own' hc sb
              have ho3 : Hid (w7.ownsRow w.heap.size 22 1 v K Gs) := by
                rcases hc with ⟨e1, e2, hg⟩ | ⟨e1, hg⟩
                · exact (ho2.out.alloc (.cells #[.int .i64 (-9000 - (K : Int)), .int .i64 78] 24)).kept hg (own_types ho2.out cu.own (by decide))
                · exact (ho2.out.alloc (.cells #[.int .i64 (-9000 - (K : Int)), .int .i64 78] 24)).kept hg (by cases v.ownBlock <;> simp)
              have h5 := hideD (And.intro q1 (And.intro q2 q3))
              clear hown hc own' q1 q2 q3 p2 cu sb ho2
              go_wp2_with fail
              go_roundw
              case rel => exact ⟨k + 1, v3, O3, by omega, rfl, by go_num, ho3, h5⟩
              case measure => simp [intOf]; omega
            · have ek : k = 20 := by omega
              subst ek
              obtain ⟨p2, cu, sb⟩ := h4.out
              have hlen : Gs.length = K := by have := ho2.out.1; omega
              have p3 := p2.done (W' := wr) ck hlen cu
              obtain ⟨g', cap', ev'⟩ := own_some cu.own (by omega)
              replace ev' := ev'.symm
              subst ev'
              have hws : w.heap.size ≤ wr.heap.size := p2.keep.size
              have hr : ∀ b, v.ownBlock = some b → w.heap.size ≤ b := fun b e => (ho2.out.lt b e).1
              clear h4 p2 cu sb
              go_wp2_with (at_builtin; refine wp_app_two _ rfl _ _ 46 rfl w.heap.size 22 j0 (.slice none 0 0) 1 24 Tryz.underlying46 hj hy0 hy1 hy2 rfl (by decide) v K Gs rfl (ho2.out.alloc _) _ 1 [.slice (some ⟨g', 0, none⟩) (ln K + 20) cap'] rfl rfl (cell_one_new _ _ _) (by simp [Value.oneCell']) (by unfold maxLen; omega) (by omega) (by simp; omega) ?_; intro v3 w7 hown hc)
              have p4 : Hid (P2 base N V ln w w7 (K + 1) (K + 1) (Gs ++ [.slice (some ⟨g', 0, none⟩) (ln K + 20) cap']) O'') := by
                rcases hc with ⟨e1, e2, hg⟩ | ⟨e1, hg⟩
                · exact (p3.alloc _).away hg hr (fun q => own_types q (ho2.out.alloc _) (by decide)) (fun j b hj e ee => by have := (p3.ow j b hj e).2; have := hr b ee.symm; omega)
                · exact (p3.alloc _).away hg (fun b e => by cases e) (fun {v0 _ _} q => by
                    cases hv : v0.ownBlock
                    · exact .inl rfl
                    · exact .inr (by simp)) (fun j b hj e ee => by cases ee)
              have ho3 := hideD hown
              clear hown hc p3 hr ho2 hlen
              go_wp2_with fail
              go_roundw
              case rel => exact ⟨K + 1, v3, _, O'', by omega, rfl, by go_num, ho3, p4⟩
              case measure => simp [intOf]; omega
        · have eK : K = N := by omega
          have k0 : ¬ (K : Int) < (N : Int) := by omega
          rw [eK] at h2 ho
          clear eK
          obtain ⟨av, cv, rfl, hav⟩ := own_isS ho.out
          have hc : Hid (∀ i, i < N → ∃ A G, av = some ⟨A, 0, none⟩ ∧ Gs[i]? = some G ∧ wr.cell? ⟨A, i, none⟩ = some G ∧ OwnR wr base G (ln i + 20) (marksR i (ln i + 20))) := fun i hi => by
            obtain ⟨G, g1, g2, -⟩ := h2.out.gs i hi
            obtain ⟨A, cA, e⟩ := own_some ho.out (by omega)
            injection e with e1 e2 e3
            subst e1
            have := ho.out.cellAt i (by omega)
            exact ⟨A, G, rfl, g1, by rw [this, g1], g2⟩
          clear ho hav
          go_wp2_with fail
          go_loopw [9] (fun s wq => ∃ (I : Nat), I ≤ N ∧ s = .int .i64 (I : Int) ∧ wq = wr) (fun s _ => N - (intOf s).toNat)
          case atStart => exact ⟨0, Nat.zero_le _, rfl, rfl⟩
          case round =>
            obtain ⟨I, hI, rfl, rfl⟩ := hrel
            by_cases ci : I < N
            · obtain ⟨A, G, rfl, -, ca, og⟩ := hc.out I ci
              obtain ⟨gb, gc, rfl⟩ := own_some og (by omega)
              have i0' : (I : Int) < (N : Int) := by omega
              have i1' : (0 : Int) ≤ (I : Int) := by omega
              have HC := hideD (fun k (hk : k < ln I + 20) => And.intro (show wr.cell? ⟨gb, k * 2, none⟩ = some (.int .i64 (-9000 - (I : Int))) by rw [og.cellAt (k * 2) (by omega), marksR_get (by omega), mk_even]) (show wr.cell? ⟨gb, k * 2 + 1, none⟩ = some (.int .i64 78) by rw [og.cellAt (k * 2 + 1) (by omega), marksR_get (by omega), mk_odd]))
              have l1 : (ln I + 20) * 16 ≤ 140737488355328 := HL.out.le I ci
              have b5 := h2.out.keep.cell HN.out HB.out
              obtain ⟨R, rfl, nr, cr⟩ := HR.out I ci
              have cr := h2.out.keep.cell nr cr
              have old := h2.out.old I
              obtain ⟨xs, ox⟩ := HO.out I ci
              obtain ⟨vb, vc, eV, hvb⟩ := own_isS ox
              have hv : Hid (∀ k, k < ln I → ∃ g, vb = some ⟨g, 0, none⟩ ∧ wr.cell? ⟨g, k * 2, none⟩ = some (.int .i64 (-9000 - (I : Int))) ∧ wr.cell? ⟨g, k * 2 + 1, none⟩ = some (.int .i64 78)) := fun k hk => by
                obtain ⟨g, gc', eg⟩ := own_some ox (by omega)
                have eb : (V I).ownBlock = some g := by rw [eg]; rfl
                exact ⟨g, hvb g eb, by rw [old g ci eb (k * 2) (by omega), mk_even], by rw [old g ci eb (k * 2 + 1) (by omega), mk_odd]⟩
              rw [eV] at cr
              clear og ox eV hvb nr old xs
              go_wp2_with fail
              go_loopw [10] (fun s wq => ∃ (k : Nat), k ≤ ln I + 20 ∧ s = .int .i64 (k : Int) ∧ wq = wr) (fun s _ => ln I + 20 - (intOf s).toNat)
              case atStart => exact ⟨0, Nat.zero_le _, rfl, rfl⟩
              case round =>
                obtain ⟨k, hk, rfl, rfl⟩ := hrel
                by_cases cl : k < ln I + 20
                · obtain ⟨c0, c1⟩ := HC.out k cl
                  have k2 : (k : Int) < (ln I : Int) + 20 := by omega
                  have k3 : (0 : Int) ≤ (k : Int) := by omega
                  go_wp2_with fail
                  go_roundw
                  case rel => exact ⟨k + 1, by omega, by go_num, by first | rfl | trivial⟩
                  case measure => simp [intOf]; omega
                · have k2 : ¬ (k : Int) < (ln I : Int) + 20 := by omega
                  clear HC
                  go_wp2_with fail
                  go_loopw [11] (fun s wq => ∃ (k : Nat), k ≤ ln I ∧ s = .int .i64 (k : Int) ∧ wq = wr) (fun s _ => ln I - (intOf s).toNat)
                  case atStart => exact ⟨0, Nat.zero_le _, rfl, by first | rfl | trivial⟩
                  case round =>
                    obtain ⟨k, hk, rfl, rfl⟩ := hrel
                    by_cases cl : k < ln I
                    · obtain ⟨g, rfl, c0, c1⟩ := hv.out k cl
                      have k2 : (k : Int) < (ln I : Int) := by omega
                      have k3 : (0 : Int) ≤ (k : Int) := by omega
                      go_wp2_with fail
                      go_roundw
                      case rel => exact ⟨k + 1, by omega, by go_num, by first | rfl | trivial⟩
                      case measure => simp [intOf]; omega
                    · have k2 : ¬ (k : Int) < (ln I : Int) := by omega
                      go_wp2_with fail
                      go_roundw
                      case rel => exact ⟨I + 1, by omega, by go_num, by first | rfl | trivial⟩
                      case measure => simp [intOf]; omega
            · have i0' : ¬ (I : Int) < (N : Int) := by omega
              have kp := hideD h2.out.keep
              go_wp2_with fail
              go_ret
              exact ⟨rfl, kp.out⟩
end Go.Proofs.YtondgencdcimjaaGreat
