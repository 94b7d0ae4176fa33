/- Package net's Add: a net with a flow more. -/
import Derived.Test.YtajihmkbnepbjajNetC
import Derived.Test.YtajihmkbnepbjajPlains
import Derived.Deep.DeepCutAuto
namespace Go.Proofs.Ytajihmkbnepbjaj
namespace Ns
open Go.RowKit Fr
set_option linter.unusedSimpArgs false
set_option linter.unusedVariables false

theorem net_nil (Q : Nat → Prop) (w : World) : NetAt Q w (.agg #[.slice none 0 0, .slice none 0 0]) [] [] := ⟨_, _, rfl, ints_nil _ _, lists_nil _ _⟩

/-- the lists of a net that is right are short -/
theorem netE_lens {caps : List Int} {paths : List (List Int)} (h : netE caps paths = 0) : ∀ i, i < paths.length → (paths.getD i []).length ≤ 1000 := by
  intro i hi
  have h0 := netE_0 h
  have := (pathsFrom_iff caps.length paths).1 h0.2.2.2.2.2 _ (getD_mem paths i hi [])
  have := pathE_len this
  omega

/-- a store beside a row of the call's own -/
theorem ownsRow_setCell_ne {w : World} {base g n cap : Nat} {e : TypeId} {size : Nat} {xs : List Value} (h : w.ownsRow base e size (.slice (some ⟨g, 0, none⟩) n cap) n xs) {a : Addr} (ha : g ≠ a.block) (u : Value) : (w.setCell a u).ownsRow base e size (.slice (some ⟨g, 0, none⟩) n cap) n xs := by
  refine ⟨h.1, ?_⟩
  rcases h.2 with h' | ⟨g', cap', cur, h', r⟩
  · exact .inl h'
  · refine .inr ⟨g', cap', cur, h', ?_⟩
    simp only [Value.slice.injEq, Option.some.injEq, Addr.mk.injEq, and_true, true_and] at h'
    rw [Below.heap_setCell w a u g' (by rw [← h'.1]; exact ha)]
    exact r

/-- a block of two cells -/
theorem two_cells {w : World} {g : Nat} {x y : Value} {T : TypeId} (h : w.heap[g]? = some (.cells #[x, y] T (0, 0))) :
    w.cell? ⟨g, 0, none⟩ = some x ∧ w.cell? ⟨g, 1, none⟩ = some y ∧ w.frozen? ⟨g, 0, none⟩ = false ∧ w.frozen? ⟨g, 1, none⟩ = false :=
  ⟨by rw [cell_of_row w g 0 _ T (0, 0) h]; rfl, by rw [cell_of_row w g 1 _ T (0, 0) h]; rfl, frozen_of_row w g 0 _ T h, frozen_of_row w g 1 _ T h⟩

/-- behind the copy of the path -/
theorem add_clone {w w3 w4 : World} {o : Obj} {x r z u : Value} {T : TypeId} (hC3 : Below (w.heap.size + 1 + 1) ((w.alloc o).alloc (.cells #[z, u] T)) w3) (hw4 : Below (w3.alloc (.cells #[x, r] T)).drew.heap.size (w3.alloc (.cells #[x, r] T)).drew w4) :
    Hid (w4.heap[w3.heap.size]? = some (.cells #[x, r] T (0, 0))) ∧ Hid (w4.heap[w.heap.size + 1]? = some (.cells #[z, u] T (0, 0))) ∧ Hid (Below w3.heap.size w3 w4) ∧ w3.heap.size < w4.heap.size := by
  have hs : (w3.alloc (.cells #[x, r] T)).drew.heap.size = w3.heap.size + 1 := by simp
  have hz : w.heap.size + 1 + 1 ≤ w3.heap.size := by have := hC3.size; simpa using this
  rw [hs] at hw4
  have hsz : w3.heap.size + 1 ≤ w4.heap.size := by have := hw4.size; rw [hs] at this; exact this
  have hb : Below w3.heap.size w3 w4 := ((Below.refl _ _).alloc (Nat.le_refl _) _).drew.trans (hw4.mono (by omega))
  refine ⟨?_, ?_, hb, hsz⟩
  · exact (hw4.block _ (by omega)).trans (heap_alloc_new w3 _)
  · have e1 := hb.block (w.heap.size + 1) (by omega)
    have e2 := hC3.block (w.heap.size + 1) (by omega)
    have e3 := heap_alloc_new (w.alloc o) (.cells #[z, u] T)
    have e4 : (w.alloc o).heap.size = w.heap.size + 1 := by simp
    rw [e4] at e3
    exact e1.trans (e2.trans e3)

/-- behind the append: the new row lies in no block of a net -/
theorem add_row {w4 w5 : World} {o : Obj} {R M S : Nat} {x r z u : Value} {T e : TypeId} {a' : Option Addr} {n' c' n : Nat} {xs : List Value} (hTe : T ≠ e)
    (hm : w4.heap[M]? = some (.cells #[x, r] T (0, 0))) (hr : w4.heap[S]? = some (.cells #[z, u] T (0, 0))) (hRM : R ≠ M) (hRS : R ≠ S)
    (ho : w5.ownsRow R e 1 (.slice a' n' c') n xs) (hn : 0 < n) (hg : (w4.alloc o).grownBy w5 (some R)) :
    Hid (w5.heap[M]? = some (.cells #[x, r] T (0, 0))) ∧ Hid (w5.heap[S]? = some (.cells #[z, u] T (0, 0))) ∧ Hid (∀ b, b ≠ R → b < w4.heap.size → w5.heap[b]? = w4.heap[b]?) ∧ (∃ g, a' = some ⟨g, 0, none⟩ ∧ n' = n ∧ R ≤ g ∧ g ≠ M ∧ g ≠ S) := by
  have K : ∀ b, b ≠ R → b < w4.heap.size → w5.heap[b]? = w4.heap[b]? := by
    intro b hb hlt
    rw [hg.block b (by simp; omega) (by simpa using hb), Below.heap_alloc w4 o b hlt]
  have lt : ∀ {b y}, w4.heap[b]? = some y → b < w4.heap.size := fun {b y} h => (Array.getElem?_eq_some_iff.1 h).1
  have kM := (K M (Ne.symm hRM) (lt hm)).trans hm
  have kS := (K S (Ne.symm hRS) (lt hr)).trans hr
  refine ⟨kM, kS, K, ?_⟩
  rcases ho.2 with ⟨_, h0⟩ | ⟨g, cap, cur, h', hb, hgc, _⟩
  · omega
  · simp only [Value.slice.injEq] at h'
    obtain ⟨rfl, rfl, rfl⟩ := h'
    refine ⟨g, rfl, rfl, hb, ?_, ?_⟩
    · rintro rfl
      rw [kM] at hgc
      simp at hgc
      exact hTe hgc.2
    · rintro rfl
      rw [kS] at hgc
      simp at hgc
      exact hTe hgc.2

/-- the net that Add hands back -/
theorem add_end {w w3 w4 w5 : World} {o : Obj} {R g c : Nat} {x y z : Value} {caps : List Int} {paths : List (List Int)} {path : List Int} {vs : List Value} (hS : w.heap.size + 1 < R) (hR : R < w3.heap.size) (hl : paths.length ≤ 6)
    (HB3 : Below w.heap.size w w3) (HB4 : Below w3.heap.size w3 w4) (h4 : w3.heap.size < w4.heap.size) (hg : (w4.alloc o).grownBy w5 (some R)) (HK : ∀ b, b ≠ R → b < w4.heap.size → w5.heap[b]? = w4.heap[b]?)
    (HX : IntsAt (fun b => R < b ∧ b < w3.heap.size) w3 x caps) (HVS : ∀ i, i < paths.length → IntsAt (fun b => R < b ∧ b < w3.heap.size) w3 (vs.getD i undef) (paths.getD i []))
    (HY : IntsAt (fun b => w3.heap.size < b) w4 y path) (HO : w5.ownsRow R 36 1 (.slice (some ⟨g, 0, none⟩) (paths.length + 1) c) (paths.length + 1) (vs ++ [y])) (hgR : R ≤ g) (hgM : g ≠ w3.heap.size) :
    NetAt (fun b => w.heap.size ≤ b) (((w5.setCell ⟨w3.heap.size, 1, none⟩ (.slice (some ⟨g, 0, none⟩) (paths.length + 1) c)).setCell ⟨w.heap.size + 1, 0, none⟩ z).setCell ⟨w.heap.size + 1, 1, none⟩ (.slice (some ⟨g, 0, none⟩) (paths.length + 1) c)) (.agg #[x, .slice (some ⟨g, 0, none⟩) (paths.length + 1) c]) caps (paths ++ [path]) ∧
      Below w.heap.size w (((w5.setCell ⟨w3.heap.size, 1, none⟩ (.slice (some ⟨g, 0, none⟩) (paths.length + 1) c)).setCell ⟨w.heap.size + 1, 0, none⟩ z).setCell ⟨w.heap.size + 1, 1, none⟩ (.slice (some ⟨g, 0, none⟩) (paths.length + 1) c)) := by
  have h3 := HB3.size
  have B4 : Below w.heap.size w w4 := HB3.trans (HB4.mono h3)
  have B5 : Below w.heap.size w w5 := (B4.alloc B4.size o).grown hg (by simp; have := B4.size; omega) (by intro k hk; cases hk; omega)
  have hlen : vs.length = paths.length := by have := HO.1; simp at this; omega
  have K : ∀ b, R < b → b ≠ w3.heap.size → b < w4.heap.size → (((w5.setCell ⟨w3.heap.size, 1, none⟩ (.slice (some ⟨g, 0, none⟩) (paths.length + 1) c)).setCell ⟨w.heap.size + 1, 0, none⟩ z).setCell ⟨w.heap.size + 1, 1, none⟩ (.slice (some ⟨g, 0, none⟩) (paths.length + 1) c)).heap[b]? = w4.heap[b]? := by
    intro b h1 h2 h3
    rw [Below.heap_setCell _ _ _ _ (by simp; omega), Below.heap_setCell _ _ _ _ (by simp; omega), Below.heap_setCell _ _ _ _ (by simpa using h2)]
    exact HK b (by omega) h3
  refine ⟨⟨_, _, rfl, (HX.later HB4).keep (fun b hb hlt => K b hb.1 (by omega) hlt) (fun b hb _ => by omega), ?_⟩, ((B5.setCell (by simp; omega) _).setCell (by simp) _).setCell (by simp) _⟩
  have hll : (paths ++ [path]).length = paths.length + 1 := by simp
  refine lists_of_owns (base := R) (vs := vs ++ [y]) (by omega) (by simp [hlen]) ?_ ?_ (fun g hg => by omega)
  · rw [hll]
    exact ownsRow_setCell_below (ownsRow_setCell_below (ownsRow_setCell_ne HO (by simpa using hgM) _) (by simpa using hS) _) (by simpa using hS) _
  · refine ints_snoc hlen (fun i hi => ?_) ?_
    · exact ((HVS i hi).later HB4).keep (fun b hb hlt => K b hb.1 (by omega) hlt) (fun b hb _ => by omega)
    · exact HY.keep (fun b hb hlt => K b (by omega) (by omega) hlt) (fun b hb _ => by omega)

set_option maxRecDepth 100000 in
set_option maxHeartbeats 2000000 in
theorem add_said : AddSaid := by
  intro Q caps paths path v p w h hp
  have HN : Hid (NetAt Q w v caps paths) := h
  have HP : Hid (IntsAt Q w p path) := hp
  have HCk : Hid (∀ u, Below w.heap.size w u → Calls Try.prog 33 #[v] u fun e w' => e = .returned (errV (netE caps paths)) ∧ Below u.heap.size u w') := fun u hu => check_said Q caps paths v u (h.later hu)
  have HPk : Hid (∀ u, Below w.heap.size w u → Calls Try.prog 37 #[v, p] u fun e w' => e = .returned (errV (pathE caps.length path)) ∧ Below u.heap.size u w') := fun u hu => checkPath_any caps paths path v p u (h.later hu) (hp.later hu)
  obtain ⟨v1, v2, rfl, h1, h2⟩ := h
  obtain ⟨a1, cap1, rfl, ⟨hm1, hn1⟩, _⟩ := h1
  obtain ⟨a2, cap2, rfl, ⟨hm2, hn2⟩, _⟩ := h2
  obtain ⟨ap, capp, rfl, ⟨hm3, hn3⟩, _⟩ := hp
  by_cases he : netE caps paths = 0
  · rw [he, errV_0] at HCk
    by_cases h6 : paths.length = 6
    · have HE : Hid (addE caps paths path = 4) := by show _ = _; rw [addE, if_pos he, if_pos h6]
      have q : ((paths.length : Int) == 6) = true := by rw [h6]; rfl
      clear he h6
      go_enter Try.func20, Try.ntmps20
      go_wp2_with fail
      refine (HCk.out _ (((Below.refl _ _).alloc (Nat.le_refl _) _).alloc (by simp) _)).mono ?_
      rintro e w1 ⟨rfl, hw1⟩
      have g1 : w1.cell? ⟨w.heap.size, 1, none⟩ = some (.slice a2 paths.length cap2) := cell_later hw1 (by simp)
      have r0 : w1.cell? ⟨w.heap.size + 1, 0, none⟩ = some (.slice none 0 0) := cell_later hw1 (by simp)
      have r1 : w1.cell? ⟨w.heap.size + 1, 1, none⟩ = some (.slice none 0 0) := cell_later hw1 (by simp)
      have s0 : w1.frozen? ⟨w.heap.size + 1, 0, none⟩ = false := (hw1.frozen (p := ⟨w.heap.size + 1, 0, none⟩) (by simp)).trans (by go_simp)
      have s1 : w1.frozen? ⟨w.heap.size + 1, 1, none⟩ = false := (hw1.frozen (p := ⟨w.heap.size + 1, 1, none⟩) (by simp)).trans (by go_simp)
      have HB1 : Hid (Below w.heap.size w w1) := (((Below.refl _ _).alloc (Nat.le_refl _) _).alloc (by simp) _).trans (hw1.mono (by simp; omega))
      clear hw1
      go_wp2
      refine bodyPost_ret (v := .tuple #[.agg #[.slice none 0 0, .slice none 0 0], .iface 72 (.int .i64 4)]) (by simp [results, Try.results20, go_sem, r0, r1]) rfl ?_
      rw [HE.out]
      exact ⟨_, rfl, net_nil _ _, (HB1.out.setCell (by simp) _).setCell (by simp) _⟩
    · have q : ((paths.length : Int) == 6) = false := beq_eq_false_iff_ne.2 (by omega)
      by_cases hpe : pathE caps.length path = 0
      · have HE : Hid (addE caps paths path = 0) := by show _ = _; rw [addE, if_pos he, if_neg h6, hpe]
        have HF : Hid (∀ u, Below w.heap.size w u → Calls Try.prog 38 #[.agg #[.slice a1 caps.length cap1, .slice a2 paths.length cap2]] u fun e w' => ∃ x vs, e = .returned (.agg #[x, .slice (some ⟨u.heap.size + 1 + 1, 0, none⟩) paths.length paths.length]) ∧ IntsAt (fun b => u.heap.size + 1 + 1 < b) w' x caps ∧
            w'.ownsRow (u.heap.size + 1 + 1) 36 1 (.slice (some ⟨u.heap.size + 1 + 1, 0, none⟩) paths.length paths.length) paths.length vs ∧
            (∀ i, i < paths.length → IntsAt (fun b => u.heap.size + 1 + 1 < b) w' (vs.getD i undef) (paths.getD i [])) ∧ Below u.heap.size u w') := fun u hu => fresh_any caps paths _ u (HN.out.later hu) (by have := netE_0 he; omega) (by have := netE_0 he; omega) (netE_lens he)
        have hpl : path.length ≤ 1000 := by have := pathE_len hpe; have := netE_0 he; omega
        have hp6 : paths.length ≤ 6 := by have := netE_0 he; omega
        rw [hpe, errV_0] at HPk
        obtain ⟨i0, hi, hz0, hz1, hz2⟩ := info_parts infoInts
        clear he h6 hpe
        go_enter Try.func20, Try.ntmps20
        go_wp2_with fail
        refine (HCk.out _ (((Below.refl _ _).alloc (Nat.le_refl _) _).alloc (by simp) _)).mono ?_
        rintro e w1 ⟨rfl, hw1⟩
        have HC1 : Hid (Below (w.heap.size + 1 + 1) ((w.alloc (.cells #[.slice a1 caps.length cap1, .slice a2 paths.length cap2] 44)).alloc (.cells #[.slice none 0 0, .slice none 0 0] 44)) w1) := hw1.mono (by simp)
        have HB1 : Hid (Below w.heap.size w w1) := (((Below.refl _ _).alloc (Nat.le_refl _) _).alloc (by simp) _).trans (hw1.mono (by simp; omega))
        have g0 : w1.cell? ⟨w.heap.size, 0, none⟩ = some (.slice a1 caps.length cap1) := cell_later hw1 (by simp)
        have g1 : w1.cell? ⟨w.heap.size, 1, none⟩ = some (.slice a2 paths.length cap2) := cell_later hw1 (by simp)
        clear hw1
        go_wp2_with fail
        refine (HPk.out _ HB1.out).mono ?_
        rintro e w2 ⟨rfl, hw2⟩
        have HC2 : Hid (Below (w.heap.size + 1 + 1) ((w.alloc (.cells #[.slice a1 caps.length cap1, .slice a2 paths.length cap2] 44)).alloc (.cells #[.slice none 0 0, .slice none 0 0] 44)) w2) := HC1.out.trans (hw2.mono (by have := HC1.out.size; simpa using this))
        have HB2 : Hid (Below w.heap.size w w2) := HB1.out.trans (hw2.mono HB1.out.size)
        replace g0 : w2.cell? ⟨w.heap.size, 0, none⟩ = some (.slice a1 caps.length cap1) := cell_later hw2 g0
        replace g1 : w2.cell? ⟨w.heap.size, 1, none⟩ = some (.slice a2 paths.length cap2) := cell_later hw2 g1
        clear hw2
        go_wp2_with fail
        refine (HF.out _ HB2.out).mono ?_
        rintro e w3 ⟨x, vs, rfl, hx, hown, hvs, hw3⟩
        have hsz2 : w.heap.size + 1 + 1 ≤ w2.heap.size := by have := HC2.out.size; simpa using this
        have HC3 : Hid (Below (w.heap.size + 1 + 1) ((w.alloc (.cells #[.slice a1 caps.length cap1, .slice a2 paths.length cap2] 44)).alloc (.cells #[.slice none 0 0, .slice none 0 0] 44)) w3) := HC2.out.trans (hw3.mono hsz2)
        have HB3 : Hid (Below w.heap.size w w3) := HB2.out.trans (hw3.mono HB2.out.size)
        have hR : w2.heap.size + 1 + 1 < w3.heap.size := (hown.lt _ rfl).2
        have HO : Hid (w3.ownsRow (w2.heap.size + 1 + 1) 36 1 (.slice (some ⟨w2.heap.size + 1 + 1, 0, none⟩) paths.length paths.length) paths.length vs) := hown
        have HX : Hid (IntsAt (fun b => w2.heap.size + 1 + 1 < b ∧ b < w3.heap.size) w3 x caps) := hx.keep (fun _ _ _ => rfl) (fun b h1 h2 => ⟨h1, h2⟩)
        have HVS : Hid (∀ i, i < paths.length → IntsAt (fun b => w2.heap.size + 1 + 1 < b ∧ b < w3.heap.size) w3 (vs.getD i undef) (paths.getD i [])) := fun i hi => (hvs i hi).keep (fun _ _ _ => rfl) (fun b h1 h2 => ⟨h1, h2⟩)
        obtain ⟨ax, capx, rfl, _⟩ := hx
        clear hown hvs hw3 g0 g1
        have HBU : Hid (Below w.heap.size w (w3.alloc (.cells #[.slice ax caps.length capx, .slice (some ⟨w2.heap.size + 1 + 1, 0, none⟩) paths.length paths.length] 44)).drew) := (HB3.out.alloc HB3.out.size _).drew
        have HCl : Hid (Calls Try.prog 34 #[.slice ap path.length capp] (w3.alloc (.cells #[.slice ax caps.length capx, .slice (some ⟨w2.heap.size + 1 + 1, 0, none⟩) paths.length paths.length] 44)).drew fun e w' => ∃ y, e = .returned y ∧ IntsAt (fun b => (w3.alloc (.cells #[.slice ax caps.length capx, .slice (some ⟨w2.heap.size + 1 + 1, 0, none⟩) paths.length paths.length] 44)).drew.heap.size ≤ b) w' y path ∧ Below (w3.alloc (.cells #[.slice ax caps.length capx, .slice (some ⟨w2.heap.size + 1 + 1, 0, none⟩) paths.length paths.length] 44)).drew.heap.size (w3.alloc (.cells #[.slice ax caps.length capx, .slice (some ⟨w2.heap.size + 1 + 1, 0, none⟩) paths.length paths.length] 44)).drew w') := Clone_any path _ _ (HP.out.later HBU.out) hpl
        go_upto_region 10 with fail
        go_region_law (first
          | (go_simp; refine HCl.out.mono ?_; rintro e w4 ⟨y, rfl, hy, hw4⟩; obtain ⟨HM4, HR4, HB4, hsz4⟩ := add_clone HC3.out hw4; have HO4 := (show Hid _ from ownsRow_later HB4.out hR HO.out); have HY := (show Hid (IntsAt (fun b => w3.heap.size < b) w4 y path) from hy.keep (fun _ _ _ => rfl) (fun b hb _ => by simp at hb; omega)); obtain ⟨ay, capy, rfl, _⟩ := hy; obtain ⟨m0, m1, f0, f1⟩ := two_cells HM4.out)
          | (refine step_append_own rfl (.tmp 31) (.tmp 34) 42 rfl (w2.heap.size + 1 + 1) 36 i0 (.slice none 0 0) 1 24 Try.underlying42 hi hz0 hz1 hz2 rfl (by decide) (.slice (some ⟨w2.heap.size + 1 + 1, 0, none⟩) paths.length paths.length) paths.length vs (by simp [Act.eval, Act.put]) (World.ownsRow.alloc HO4.out _) ⟨w4.heap.size, 0, none⟩ 1 1 [.slice ay path.length capy] (by simp [Act.eval, Act.put]) rfl (by intro j u hj; match j, hj with | 0, hj => simp at hj; subst hj; rw [add_addr]; go_simp) (by intro u hu; simp at hu; subst hu; rfl) (by unfold maxLen; omega) (by omega) (by simp; omega) ?_; intro a5 n5 c5 w5 hown5 hgrow5; obtain ⟨HM5, HR5, HK5, g5, rfl, rfl, hg5, hgM, hgS⟩ := add_row (by decide) HM4.out HR4.out (by omega) (by omega) hown5 (by omega) hgrow5; obtain ⟨m0, m1, f0, f1⟩ := two_cells HM5.out; obtain ⟨r0, r1, s0, s1⟩ := two_cells HR5.out))
        all_goals
          go_wp2
          refine bodyPost_ret (v := .tuple #[.agg #[.slice ax caps.length capx, .slice (some ⟨g5, 0, none⟩) (paths.length + 1) c5], .nilIface]) (by simp [results, Try.results20, go_sem, r0, r1]) rfl ?_
          rw [HE.out]
          exact ⟨_, rfl, add_end (by omega) hR hp6 HB3.out HB4.out hsz4 hgrow5 HK5.out HX.out HVS.out HY.out hown5 hg5 hgM⟩
      · have HE : Hid (addE caps paths path = pathE caps.length path) := by show _ = _; rw [addE, if_pos he, if_neg h6]
        have HV : Hid (errV (pathE caps.length path) = .iface 72 (.int .i64 (pathE caps.length path))) := errV_ne hpe
        have HK1 : Hid (okL (pathE caps.length path) caps = []) := okL_ne hpe _
        have HK2 : Hid (okL (pathE caps.length path) (paths ++ [path]) = []) := okL_ne hpe _
        rw [HV.out] at HPk
        generalize pathE caps.length path = ek at *
        clear he h6 hpe
        go_enter Try.func20, Try.ntmps20
        go_wp2_with fail
        refine (HCk.out _ (((Below.refl _ _).alloc (Nat.le_refl _) _).alloc (by simp) _)).mono ?_
        rintro e w1 ⟨rfl, hw1⟩
        have HC1 : Hid (Below (w.heap.size + 1 + 1) ((w.alloc (.cells #[.slice a1 caps.length cap1, .slice a2 paths.length cap2] 44)).alloc (.cells #[.slice none 0 0, .slice none 0 0] 44)) w1) := hw1.mono (by simp)
        have HB1 : Hid (Below w.heap.size w w1) := (((Below.refl _ _).alloc (Nat.le_refl _) _).alloc (by simp) _).trans (hw1.mono (by simp; omega))
        have g0 : w1.cell? ⟨w.heap.size, 0, none⟩ = some (.slice a1 caps.length cap1) := cell_later hw1 (by simp)
        have g1 : w1.cell? ⟨w.heap.size, 1, none⟩ = some (.slice a2 paths.length cap2) := cell_later hw1 (by simp)
        clear hw1
        go_wp2_with fail
        refine (HPk.out _ HB1.out).mono ?_
        rintro e w2 ⟨rfl, hw2⟩
        have HC2 : Hid (Below (w.heap.size + 1 + 1) ((w.alloc (.cells #[.slice a1 caps.length cap1, .slice a2 paths.length cap2] 44)).alloc (.cells #[.slice none 0 0, .slice none 0 0] 44)) w2) := HC1.out.trans (hw2.mono (by have := HC1.out.size; simpa using this))
        have HB2 : Hid (Below w.heap.size w w2) := HB1.out.trans (hw2.mono HB1.out.size)
        have r0 : w2.cell? ⟨w.heap.size + 1, 0, none⟩ = some (.slice none 0 0) := (HC2.out.cell (p := ⟨w.heap.size + 1, 0, none⟩) (by simp)).trans (by go_simp)
        have r1 : w2.cell? ⟨w.heap.size + 1, 1, none⟩ = some (.slice none 0 0) := (HC2.out.cell (p := ⟨w.heap.size + 1, 1, none⟩) (by simp)).trans (by go_simp)
        have s0 : w2.frozen? ⟨w.heap.size + 1, 0, none⟩ = false := (HC2.out.frozen (p := ⟨w.heap.size + 1, 0, none⟩) (by simp)).trans (by go_simp)
        have s1 : w2.frozen? ⟨w.heap.size + 1, 1, none⟩ = false := (HC2.out.frozen (p := ⟨w.heap.size + 1, 1, none⟩) (by simp)).trans (by go_simp)
        clear hw2 g0 g1
        go_wp2
        refine bodyPost_ret (v := .tuple #[.agg #[.slice none 0 0, .slice none 0 0], .iface 72 (.int .i64 ek)]) (by simp [results, Try.results20, go_sem, r0, r1]) rfl ?_
        rw [HE.out, HK1.out, HK2.out, HV.out]
        exact ⟨_, rfl, net_nil _ _, (HB2.out.setCell (by simp) _).setCell (by simp) _⟩
  · have HE : Hid (addE caps paths path = netE caps paths) := by show _ = _; rw [addE, if_neg he]
    have HV : Hid (errV (netE caps paths) = .iface 72 (.int .i64 (netE caps paths))) := errV_ne he
    have HK1 : Hid (okL (netE caps paths) caps = []) := okL_ne he _
    have HK2 : Hid (okL (netE caps paths) (paths ++ [path]) = []) := okL_ne he _
    rw [HV.out] at HCk
    generalize netE caps paths = ek at *
    clear he
    go_enter Try.func20, Try.ntmps20
    go_wp2_with fail
    refine (HCk.out _ (((Below.refl _ _).alloc (Nat.le_refl _) _).alloc (by simp) _)).mono ?_
    rintro e w1 ⟨rfl, hw1⟩
    have r0 : w1.cell? ⟨w.heap.size + 1, 0, none⟩ = some (.slice none 0 0) := cell_later hw1 (by simp)
    have r1 : w1.cell? ⟨w.heap.size + 1, 1, none⟩ = some (.slice none 0 0) := cell_later hw1 (by simp)
    have s0 : w1.frozen? ⟨w.heap.size + 1, 0, none⟩ = false := (hw1.frozen (p := ⟨w.heap.size + 1, 0, none⟩) (by simp)).trans (by go_simp)
    have s1 : w1.frozen? ⟨w.heap.size + 1, 1, none⟩ = false := (hw1.frozen (p := ⟨w.heap.size + 1, 1, none⟩) (by simp)).trans (by go_simp)
    have HB1 : Hid (Below w.heap.size w w1) := (((Below.refl _ _).alloc (Nat.le_refl _) _).alloc (by simp) _).trans (hw1.mono (by simp; omega))
    clear hw1
    go_wp2
    refine bodyPost_ret (v := .tuple #[.agg #[.slice none 0 0, .slice none 0 0], .iface 72 (.int .i64 ek)]) (by simp [results, Try.results20, go_sem, r0, r1]) rfl ?_
    rw [HE.out, HK1.out, HK2.out, HV.out]
    exact ⟨_, rfl, net_nil _ _, (HB1.out.setCell (by simp) _).setCell (by simp) _⟩
end Ns
end Go.Proofs.Ytajihmkbnepbjaj
