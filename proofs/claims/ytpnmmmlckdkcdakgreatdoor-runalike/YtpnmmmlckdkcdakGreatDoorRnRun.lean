/- Package run's Run answers a text, each of its lines by one line, as the document says it. -/
import Derived.Test.YtpnmmmlckdkcdakGreatDoorRlDoRlDoBRlAnsAll
import Derived.Test.YtpnmmmlckdkcdakGreatDoorRlTextRlBldAll
import Derived.Test.YtpnmmmlckdkcdakGreatDoorPlains
namespace Go.Proofs.YtpnmmmlckdkcdakGreatDoor
namespace Ev
open Go.RowKit Go.Shelf Fr Ns Ld Fl
set_option linter.unusedSimpArgs false
set_option linter.unusedVariables false
attribute [local go_sem] Oper.semAt_some

theorem range_19 (X : Nat → Value) : (List.range 19).map X = [X 0, X 1, X 2, X 3, X 4, X 5, X 6, X 7, X 8, X 9, X 10, X 11, X 12, X 13, X 14, X 15, X 16, X 17, X 18] := rfl
theorem recs_bd (s : Txt) : 6 * recsT s ≤ s.length + 1 := by
  unfold recsT
  split
  · rename_i h; have := rl_recs h.1 h.2; omega
  · omega
/-- what a session holds behind k lines: its flows, its answers, and nothing else of what was there ahead of the lines is changed -/
def RunI (W0 : World) (a : Addr) (gb : Nat) (F0 : Nat → Prop) (L : List Txt) (k : Nat) (U : World) : Prop :=
  ∃ F Fb j, DeskAt logX U (.pointer (some a)) F (playR (L.take k)).2 j ∧ 6 * j ≤ bytesL (L.take k) ∧ Bld U gb Fb (playR (L.take k)).1 ∧
    (∀ b, F b → F0 b ∨ W0.heap.size + 1 < b) ∧ (∀ b, Fb b → b = gb ∨ W0.heap.size + 1 < b) ∧ (∀ b, F b → ¬ Fb b) ∧ ButIn (fun b => F0 b ∨ b = gb) W0 U
section
variable {W0 : World} {a : Addr} {gb Bb : Nat} {F0 : Nat → Prop} {L : List Txt}
theorem RunI.firm (h0 : ∀ b, F0 b → b < W0.heap.size) (hg : gb < W0.heap.size) : Firm (fun b => False ∨ loopB W0 b) (RunI W0 a gb F0 L) := by
  rintro k U U' ⟨F, Fb, j, h1, h2, h3, h4, h5, h6, h7⟩ hb
  have hz := hb.1.size
  have hlt1 := h1.lt
  have hlt3 := h3.lt
  refine ⟨F, Fb, j, h1.keep (fun b q => hb.2 b (hlt1 b q) ?_), h2, h3.keep hz (fun b q => hb.2 b (hlt3 b q) ?_), h4, h5, h6, h7.1.trans hb.1, fun b q1 q2 => (hb.2 b (by have := h7.1.size; omega) ?_).trans (h7.2 b q1 q2)⟩
  · rintro (e | e | e)
    · exact e
    · rcases h4 b q with q | q
      · have := h0 b q; omega
      · omega
    · rcases h4 b q with q | q
      · have := h0 b q; omega
      · omega
  · rintro (e | e | e)
    · exact e
    · rcases h5 b q with q | q <;> omega
    · rcases h5 b q with q | q <;> omega
  · rintro (e | e | e)
    · exact e
    · omega
    · omega
theorem RunI.next {U U1 U2 U3 : World} {F Fb Fb2 : Nat → Prop} {j k : Nat} (h0 : ∀ b, F0 b → b < W0.heap.size) (hg : gb < W0.heap.size) (hBb : Bb < W0.heap.size) (nBb : ¬ F0 Bb) (ngb : Bb ≠ gb) (hmx : 1 < W0.heap.size) (nmx : ¬ F0 1) (nmg : 1 ≠ gb)
    (hk : k < L.length) (hU : W0.heap.size + 1 < U.heap.size)
    (h2 : 6 * j ≤ bytesL (L.take k)) (h3l : ∀ b, Fb b → b < U.heap.size) (h4 : ∀ b, F b → F0 b ∨ W0.heap.size + 1 < b) (h5 : ∀ b, Fb b → b = gb ∨ W0.heap.size + 1 < b) (h6 : ∀ b, F b → ¬ Fb b) (h7 : ButIn (fun b => F0 b ∨ b = gb) W0 U)
    (hT : DeskTo logX (.pointer (some a)) F (lineF (playR (L.take k)).2 (L.getD k [])) (j + recsT (L.getD k [])) U U1)
    (g1 : Bld U2 gb Fb2 ((playR (L.take k)).1 ++ lineT (playR (L.take k)).2 (L.getD k []))) (g2 : ∀ b, Fb2 b → Fb b ∨ U1.heap.size ≤ b) (g3 : ButIn Fb U1 U2)
    (hb3 : BldTo gb Fb2 ((playR (L.take k)).1 ++ lineT (playR (L.take k)).2 (L.getD k []) ++ [10]) U2 U3) :
    Stays (fun b => lineG Bb b ∨ loopB W0 b) U U3 ∧ RunI W0 a gb F0 L (k + 1) U3 := by
  obtain ⟨F', t1, t2, t3⟩ := hT
  obtain ⟨Fb3, b1, b2, b3⟩ := hb3
  have z1 := t3.1.size
  have z2 := g3.1.size
  have z3 := b3.1.size
  have hlt1 := t1.lt
  have hF : ∀ b, F' b → F0 b ∨ W0.heap.size + 1 < b := fun b q => by
    rcases t2 b q with q | q
    · exact h4 b q
    · exact .inr (by omega)
  have hFb2 : ∀ b, Fb2 b → b = gb ∨ W0.heap.size + 1 < b := fun b q => by
    rcases g2 b q with q | q
    · exact h5 b q
    · exact .inr (by omega)
  have hd2 : ∀ b, F' b → ¬ Fb b := fun b q1 q2 => by
    rcases t2 b q1 with q | q
    · exact h6 b q q2
    · have := h3l b q2; omega
  have hd3 : ∀ b, F' b → ¬ Fb2 b := fun b q1 q2 => by
    rcases g2 b q2 with q | q
    · exact hd2 b q1 q
    · have := hlt1 b q1; omega
  have K : ∀ b, b < U.heap.size → ¬ F b → ¬ Fb b → U3.heap[b]? = U.heap[b]? := fun b q1 q2 q3 => by
    have n2 : ¬ Fb2 b := fun q => by
      rcases g2 b q with q | q
      · exact q3 q
      · omega
    exact (b3.2 b (by omega) n2).trans ((g3.2 b (by omega) q3).trans (t3.2 b q1 q2))
  have hst := rl_play_step L k hk
  have hn : ∀ b, b < W0.heap.size + 2 → ¬ F0 b → b ≠ gb → ¬ F b ∧ ¬ Fb b := fun b q1 q2 q3 => ⟨fun q => by
    rcases h4 b q with q | q
    · exact q2 q
    · omega, fun q => by
    rcases h5 b q with q | q
    · exact q3 q
    · omega⟩
  refine ⟨fun b hb => ?_, F', Fb3, j + recsT (L.getD k []), ?_, ?_, ?_, hF, fun b q => ?_, fun b q1 q2 => ?_, ?_⟩
  · have : b < W0.heap.size + 2 ∧ ¬ F0 b ∧ b ≠ gb := by
      rcases hb with (rfl | rfl) | (rfl | rfl)
      · exact ⟨by omega, nBb, ngb⟩
      · exact ⟨by omega, nmx, nmg⟩
      · exact ⟨by omega, fun q => by have := h0 _ q; omega, by omega⟩
      · exact ⟨by omega, fun q => by have := h0 _ q; omega, by omega⟩
    obtain ⟨n1, n2⟩ := hn b this.1 this.2.1 this.2.2
    exact K b (by omega) n1 n2
  · rw [hst]
    exact t1.keep (fun b q => (b3.2 b (by have := hlt1 b q; omega) (hd3 b q)).trans (g3.2 b (hlt1 b q) (hd2 b q)))
  · rw [bytesL_step L k hk]
    have := recs_bd (L.getD k [])
    omega
  · rw [hst]; exact b1
  · rcases b2 b q with q | q
    · exact hFb2 b q
    · exact .inr (by omega)
  · rcases b2 b q2 with q | q
    · exact hd3 b q1 q
    · have := hlt1 b q1; omega
  · refine ⟨((h7.1.trans t3.1).trans g3.1).trans b3.1, fun b q1 q2 => ?_⟩
    obtain ⟨n1, n2⟩ := hn b (by omega) (fun q => q2 (.inl q)) (fun q => q2 (.inr q))
    exact (K b (by omega) n1 n2).trans (h7.2 b q1 q2)
end

set_option maxRecDepth 100000 in
set_option maxHeartbeats 4000000 in
theorem rrun (t : Txt) (w : World) (hg : w.cell? ⟨0, 0, none⟩ = some handleV) (ht : TabAt w) (hm : MaxAt w) (hl : t.length ≤ 9223372036854775807) :
    Calls Tryz.prog 21 #[.string ⟨t.toArray⟩] w fun e w' => e = .returned (.string ⟨(runT t).toArray⟩) ∧ Below w.heap.size w w' := by
  have hsz : (⟨t.toArray⟩ : ByteArray).size = t.length := txt_len t
  by_cases h3 : 3000 < t.length
  · have e : runT t = tLong := by rw [runT, if_pos h3]
    rw [e]
    have h3i : (3000 : Int) < t.length := by omega
    clear hg ht hm
    go_enter Tryz.func21, Tryz.ntmps21
    go_wp2
    go_ret
    exact ⟨rfl, Below.refl _ _⟩
  · have e : runT t = (playR (linesT t)).1 := by rw [runT, if_neg h3]
    rw [e]
    have h3i : ¬ (3000 : Int) < t.length := by omega
    refine callsIn_wide.1 (callsIn_of_wp_marks (F := Fence.wide) (n := 5) Tryz.func21 rfl trivial ?_ rfl)
    refine wpIn_wide.2 ?_
    simp only [Tryz.ntmps21, List.size_toArray, List.length_cons, List.length_nil, Nat.reduceAdd, Nat.reduceSub, Array.replicate_succ, Array.replicate_zero, List.push_toArray, List.append_toArray, List.nil_append, List.cons_append]
    go_wp2_with fail
    refine (rnewdesk w).mono ?_
    rintro e w1 ⟨a, r, F0, rfl, hD, hF0, hr0, hr, hrF, hb1⟩
    go_wp2_with fail
    refine (rlines_any t _).mono ?_
    rintro e W00 ⟨rfl, rfl⟩
    go_wp2_with fail
    obtain ⟨W0, hW0⟩ : ∃ W0, W0 = ((w1.alloc (.cells #[.pointer (some a), .map (some r)] 87)).alloc (.cells #[.pointer none, .slice none 0 0] 91)).alloc (.cells #[.string ⟨t.toArray⟩] 9) := ⟨_, rfl⟩
    have s0 : W0.heap.size = w1.heap.size + 3 := by rw [hW0]; simp
    have B1 : Below w1.heap.size w1 W0 := by rw [hW0]; exact (((Below.refl _ _).alloc (Nat.le_refl _) _).alloc (by simp) _).alloc (by simp; omega) _
    have z1 := hb1.size
    have B0 : Below w.heap.size w W0 := Bel.call hb1 (Nat.le_refl _) B1
    have RD : RowAt W0 w1.heap.size 87 [.pointer (some a), .map (some r)] := by rw [hW0]; exact ((row_made w1 _ _ _ _ rfl rfl).alloc _).alloc _
    have RB : RowAt W0 (w1.heap.size + 1) 91 [.pointer none, .slice none 0 0] := by rw [hW0]; exact (row_made _ _ _ _ _ (by simp) rfl).alloc _
    have RT : RowAt W0 (w1.heap.size + 2) 9 [.string ⟨t.toArray⟩] := by rw [hW0]; exact row_made _ _ _ _ _ (by simp) rfl
    rw [← hW0]
    have hrl : r < w1.heap.size := (Array.getElem?_eq_some_iff.1 hr).1
    have hrW : W0.heap[r]? = some (.map wantsM 6) := by rw [B1.block r hrl]; exact hr
    have hD0 : DeskAt logX W0 (.pointer (some a)) F0 [] 0 := hD.later B1
    have hFl : ∀ b, F0 b → w.heap.size ≤ b ∧ b < w1.heap.size := fun b q => ⟨hF0 b q, hD.lt b q⟩
    have hgl := World.block_lt_of_cell? _ _ hg
    have hml := hm.lt
    have hmW := hm.later B0
    obtain ⟨S, hS⟩ : ∃ S : Nat → Txt, S = fun k => (linesT t).getD k [] := ⟨_, rfl⟩
    have hseq : SeqGo Tryz.prog 79 #[.pointer (some ⟨w1.heap.size + 2, 0, none⟩)] (fun k => #[.string ⟨(S k).toArray⟩]) (linesT t).length (lineG (w1.heap.size + 2)) (fun _ => False) W0 := by
      rw [hS]; exact rlines_go (w1.heap.size + 2) _ t W0 (RT.cell rfl) hmW (by omega) rfl
    have hS' : ∀ k, (linesT t).getD k [] = S k := fun k => by rw [hS]
    have hbl : bytesL (linesT t) ≤ 3001 := by have := lines_len t.length t (Nat.le_refl _); unfold bytesL; omega
    have hI0 : RunI W0 a (w1.heap.size + 1) F0 (linesT t) 0 W0 := by
      refine ⟨F0, fun b => b = w1.heap.size + 1, 0, hD0, by omega, ⟨.pointer none, .slice none 0 0, .inl rfl, ⟨RB, ⟨rfl, .inl ⟨rfl, rfl⟩⟩, rfl, fun g h => by simp [Value.ownBlock] at h⟩, fun b q => by omega⟩, fun b q => .inl q, fun b q => .inl q, fun b q1 q2 => by have := hFl b q1; omega, ButIn.refl _ _⟩
    have HBody : Hid (∀ k U, k < (linesT t).length → W0.heap.size + 1 < U.heap.size → RunI W0 a (w1.heap.size + 1) F0 (linesT t) k U →
        RowAt U w1.heap.size 87 [.pointer (some a), .map (some r)] ∧ ∃ (F Fb : Nat → Prop) (j : Nat) (l x : Txt) (f : Flows),
          Calls Tryz.prog 48 #[.agg #[.pointer (some a), .map (some r)], .string ⟨(S k).toArray⟩] U (fun e w' => e = .returned (.string ⟨x.toArray⟩) ∧ DeskTo logX (.pointer (some a)) F f j U w') ∧
          (∀ U1, DeskTo logX (.pointer (some a)) F f j U U1 → Calls Tryz.prog 47 #[.pointer (some ⟨w1.heap.size + 1, 0, none⟩), .string ⟨x.toArray⟩] U1 (fun e w' => e = .returned (.tuple #[.int .i64 x.length, .nilIface]) ∧ BldTo (w1.heap.size + 1) Fb (l ++ x) U1 w')) ∧
          (∀ U2 Fb2, Bld U2 (w1.heap.size + 1) Fb2 (l ++ x) → Calls Tryz.prog 49 #[.pointer (some ⟨w1.heap.size + 1, 0, none⟩), .int .u8 10] U2 (fun e w' => e = .returned .nilIface ∧ BldTo (w1.heap.size + 1) Fb2 (l ++ x ++ [10]) U2 w')) ∧
          (∀ U1 U2 U3 Fb2, DeskTo logX (.pointer (some a)) F f j U U1 → Bld U2 (w1.heap.size + 1) Fb2 (l ++ x) → (∀ b, Fb2 b → Fb b ∨ U1.heap.size ≤ b) → ButIn Fb U1 U2 → BldTo (w1.heap.size + 1) Fb2 (l ++ x ++ [10]) U2 U3 →
            Stays (fun b => lineG (w1.heap.size + 2) b ∨ loopB W0 b) U U3 ∧ RunI W0 a (w1.heap.size + 1) F0 (linesT t) (k + 1) U3)) := fun k U hk hU hI => by
      obtain ⟨F, Fb, j, h1, h2, h3, h4, h5, h6, h7⟩ := hI
      have hq : ∀ b, b < W0.heap.size → ¬ F0 b → b ≠ w1.heap.size + 1 → U.heap[b]? = W0.heap[b]? := fun b q1 q2 q3 => h7.2 b q1 (by rintro (q | q); exact q2 q; exact q3 q)
      have hlo : ∀ b, b < w.heap.size → U.heap[b]? = W0.heap[b]? := fun b q => hq b (by have := B0.size; omega) (fun q2 => by have := hFl b q2; omega) (by omega)
      have hBU : Below w.heap.size w U := ⟨h7.1.os.trans B0.os, h7.1.tape.trans B0.tape, h7.1.output.trans B0.output, Nat.le_trans B0.size h7.1.size, fun b q => (hlo b q).trans (B0.block b q)⟩
      have hkb := bytesL_take (linesT t) k (by omega)
      have hln : ((linesT t).getD k []).length ≤ 3000 := by have := bytesL_step (linesT t) k hk; have := (bytesL_take (linesT t) (k + 1) hk).1; omega
      have hlk := rl_play_len (linesT t) k (by omega)
      have hx := rl_lineT_len ((linesT t).getD k []) (rl_play_right ((linesT t).take k))
      have hkN : k ≤ 3001 := by omega
      refine ⟨?_, F, Fb, j + recsT ((linesT t).getD k []), (playR ((linesT t).take k)).1, lineT (playR ((linesT t).take k)).2 ((linesT t).getD k []), lineF (playR ((linesT t).take k)).2 ((linesT t).getD k []), ?_, ?_, ?_, ?_⟩
      · unfold RowAt at RD ⊢
        rw [hq w1.heap.size (by omega) (fun q => by have := hFl _ q; omega) (by omega)]; exact RD
      · rw [← hS' k]
        exact ranswer _ _ r j F _ U (cell_later hBU hg) (ht.later hBU) (hm.later hBU) (by rw [hq r (by omega) hrF (by omega)]; exact hrW) h1 (by omega) hln (fun q => by
          rcases h4 _ q with q | q
          · have := hFl _ q; omega
          · have := B0.size; omega)
      · intro U1 hT
        have hb : Bld U1 (w1.heap.size + 1) Fb (playR ((linesT t).take k)).1 := by
          obtain ⟨F', t1, t2, t3⟩ := hT
          exact h3.keep t3.1.size (fun b q => t3.2 b (h3.lt b q) (fun q2 => h6 b q2 q))
        exact bwrite _ hb (by omega)
      · intro U2 Fb2 hb
        have := bbyte (c := 10) hb (by rw [List.length_append]; omega)
        exact this
      · intro U1 U2 U3 Fb2 hT g1 g2 g3 hb3
        exact RunI.next (fun b q => by have := hFl b q; omega) (by omega) (by omega) (fun q => by have := hFl _ q; omega) (by omega) (by have := B0.size; omega) (fun q => by have := hFl _ q; omega) (by omega) hk hU h2 h3.lt h4 h5 h6 h7 hT g1 g2 g3 hb3
    have HEnd : Hid (∀ U, RunI W0 a (w1.heap.size + 1) F0 (linesT t) (linesT t).length U → Below w.heap.size w U ∧ Calls Tryz.prog 50 #[.pointer (some ⟨w1.heap.size + 1, 0, none⟩)] U (fun e w' => e = .returned (.string ⟨(playR (linesT t)).1.toArray⟩) ∧ Below w.heap.size U w' ∧ Lib.OthersKept 5 (some (w1.heap.size + 1)) U w')) := fun U hI => by
      obtain ⟨F, Fb, j, h1, h2, h3, h4, h5, h6, h7⟩ := hI
      rw [List.take_length] at h3
      have hlo : ∀ b, b < w.heap.size → U.heap[b]? = W0.heap[b]? := fun b q => h7.2 b (by have := B0.size; omega) (by
        rintro (q2 | q2)
        · have := hFl b q2; omega
        · omega)
      refine ⟨⟨h7.1.os.trans B0.os, h7.1.tape.trans B0.tape, h7.1.output.trans B0.output, Nat.le_trans B0.size h7.1.size, fun b q => (hlo b q).trans (B0.block b q)⟩, bstring h3 (fun b q => ?_) ?_⟩
      · rcases h5 b q with q | q
        · omega
        · have := B0.size; omega
      · have := B0.size; have := h7.1.size; omega
    have hFirm := RunI.firm (W0 := W0) (a := a) (gb := w1.heap.size + 1) (F0 := F0) (L := linesT t) (fun b q => by have := hFl b q; omega) (by omega)
    have hGl : ∀ b, lineG (w1.heap.size + 2) b → b < W0.heap.size := fun b q => by
      rcases q with rfl | rfl
      · omega
      · have := B0.size; omega
    have hw0 : w.heap.size ≤ W0.heap.size := B0.size
    clear hg ht hm hD hD0 hF0 hr hrW hb1 B1 B0 RD RB RT hW0 hFl hmW hS hS' hbl hrF
    generalize (linesT t).length = N at *
    refine (wpIn_wide (n := 5)).1 ?_
    refine range_go (gf := 79) (lb := #[.pointer (some ⟨w1.heap.size + 2, 0, none⟩)]) rfl (enters_of Tryz.func79 (by kernel_rfl) rfl) hseq (fun _ => rfl)
      hGl (fun _ h => h.elim) (RunI W0 a (w1.heap.size + 1) F0 (linesT t)) (fun _ _ _ => False) hFirm (fun _ _ _ _ h _ => h) hI0
      (fun k a' _ => Slots 19 [(3, .pointer (some ⟨w1.heap.size, 0, none⟩)), (4, .pointer (some ⟨w1.heap.size + 1, 0, none⟩)), (5, .string ⟨(S k).toArray⟩)] a') (fun _ _ _ _ h _ => h) ?assign ?body ?done ?stop
    case assign =>
      intro k W K hk hi hK
      clear hk
      gi_wp2
      exact hK _ _ (Stays.refl _ _) hi ⟨rfl, rfl, rfl, rfl, rfl, trivial⟩
    case body =>
      rintro k a' U hk hsl hI hSl
      obtain ⟨hrow, F, Fb, j, l, x, f, q1, q2, q3, q4⟩ := HBody.out k U hk hsl hI
      obtain ⟨Y, rfl, hY⟩ := hSl.lay
      obtain ⟨y0, y1, y2, -⟩ := hY
      rw [range_19]
      simp only [y0, y1, y2]
      clear hSl y0 y1 y2 HBody HEnd hseq hI0
      have HQ1 : Hid (Calls Tryz.prog 48 #[.agg #[.pointer (some a), .map (some r)], .string ⟨(S k).toArray⟩] U (fun e w' => e = .returned (.string ⟨x.toArray⟩) ∧ DeskTo logX (.pointer (some a)) F f j U w')) := q1
      have HQ2 : Hid (∀ U1, DeskTo logX (.pointer (some a)) F f j U U1 → Calls Tryz.prog 47 #[.pointer (some ⟨w1.heap.size + 1, 0, none⟩), .string ⟨x.toArray⟩] U1 (fun e w' => e = .returned (.tuple #[.int .i64 x.length, .nilIface]) ∧ BldTo (w1.heap.size + 1) Fb (l ++ x) U1 w')) := q2
      have HQ3 : Hid (∀ U2 Fb2, Bld U2 (w1.heap.size + 1) Fb2 (l ++ x) → Calls Tryz.prog 49 #[.pointer (some ⟨w1.heap.size + 1, 0, none⟩), .int .u8 10] U2 (fun e w' => e = .returned .nilIface ∧ BldTo (w1.heap.size + 1) Fb2 (l ++ x ++ [10]) U2 w')) := q3
      have HQ4 : Hid (∀ U1 U2 U3 Fb2, DeskTo logX (.pointer (some a)) F f j U U1 → Bld U2 (w1.heap.size + 1) Fb2 (l ++ x) → (∀ b, Fb2 b → Fb b ∨ U1.heap.size ≤ b) → ButIn Fb U1 U2 → BldTo (w1.heap.size + 1) Fb2 (l ++ x ++ [10]) U2 U3 →
            Stays (fun b => lineG (w1.heap.size + 2) b ∨ loopB W0 b) U U3 ∧ RunI W0 a (w1.heap.size + 1) F0 (linesT t) (k + 1) U3) := q4
      have d0 := hrow.cell (i := 0) rfl
      have d1 := hrow.cell (i := 1) rfl
      have l0 := hrow.lt
      clear q1 q2 q3 q4 hrow hI
      clear s0
      generalize S k = sk at *
      gi_wp2
      refine ⟨trivial, (CallsIn.inRound (W0.heap.size + 1) (callsIn_wide.2 HQ1.out)).mono ?_⟩
      rintro e U1 ⟨rfl, hT⟩
      have HT : Hid (DeskTo logX (.pointer (some a)) F f j U U1) := hT
      have HQ2a : Hid (Calls Tryz.prog 47 #[.pointer (some ⟨w1.heap.size + 1, 0, none⟩), .string ⟨x.toArray⟩] U1 (fun e w' => e = .returned (.tuple #[.int .i64 x.length, .nilIface]) ∧ BldTo (w1.heap.size + 1) Fb (l ++ x) U1 w')) := HQ2.out U1 hT
      clear hT d0 d1 HQ1 HQ2
      gi_wp2
      refine ⟨trivial, (CallsIn.inRound (W0.heap.size + 1) (callsIn_wide.2 HQ2a.out)).mono ?_⟩
      rintro e U2 ⟨rfl, Fb2, g1, g2, g3⟩
      have HQ3a : Hid (Calls Tryz.prog 49 #[.pointer (some ⟨w1.heap.size + 1, 0, none⟩), .int .u8 10] U2 (fun e w' => e = .returned .nilIface ∧ BldTo (w1.heap.size + 1) Fb2 (l ++ x ++ [10]) U2 w')) := HQ3.out U2 Fb2 g1
      have HQ4a : Hid (∀ U3, BldTo (w1.heap.size + 1) Fb2 (l ++ x ++ [10]) U2 U3 → Stays (fun b => lineG (w1.heap.size + 2) b ∨ loopB W0 b) U U3 ∧ RunI W0 a (w1.heap.size + 1) F0 (linesT t) (k + 1) U3) := fun U3 h => HQ4.out U1 U2 U3 Fb2 HT.out g1 g2 g3 h
      clear g1 g2 g3 HQ2a HQ3 HQ4 HT
      gi_wp2
      refine ⟨trivial, (CallsIn.inRound (W0.heap.size + 1) (callsIn_wide.2 HQ3a.out)).mono ?_⟩
      rintro e U3 ⟨rfl, hb3⟩
      obtain ⟨f1, f2⟩ := HQ4a.out U3 hb3
      have HF1 : Hid (Stays (fun b => lineG (w1.heap.size + 2) b ∨ loopB W0 b) U U3) := f1
      have HF2 : Hid (RunI W0 a (w1.heap.size + 1) F0 (linesT t) (k + 1) U3) := f2
      clear f1 f2 hb3 HQ3a HQ4a
      gi_wp2
      exact ⟨HF1.out, HF2.out⟩
    case done =>
      rintro U hI hD
      obtain ⟨hbU, hC⟩ := HEnd.out U hI
      have HC : Hid (Calls Tryz.prog 50 #[.pointer (some ⟨w1.heap.size + 1, 0, none⟩)] U (fun e w' => e = .returned (.string ⟨(playR (linesT t)).1.toArray⟩) ∧ Below w.heap.size U w' ∧ Lib.OthersKept 5 (some (w1.heap.size + 1)) U w')) := hC
      have HB : Hid (Below w.heap.size w U) := hbU
      have HD : Hid (U.heap[W0.heap.size]? = some (.deferred (some []))) := hD
      have hne : W0.heap.size ≠ w1.heap.size + 1 := by omega
      clear hC hbU hI hD HBody HEnd hseq hI0 s0
      go_wp2_with fail
      refine HC.out.mono ?_
      rintro e w9 ⟨rfl, hb9, ho9⟩
      have hd9 : w9.heap[W0.heap.size]? = some (.deferred (some [])) := ho9 _ _ HD.out (by simpa using hne) (fun c fz q => by cases q)
      have HE : Hid (∀ o, Below w.heap.size w (w9.putObj W0.heap.size o)) := fun o => by
        have h9 := HB.out.trans hb9
        exact ⟨h9.os, h9.tape, h9.output, by rw [World.putObj_size]; exact h9.size, fun b q => (World.putObj_heap_other (by omega)).trans (h9.block b q)⟩
      clear hb9 ho9
      go_wp2
      refine ⟨by simp, .inl ⟨_, _, rfl, run_takeDeferred hd9, ?_⟩⟩
      exact ⟨_, results_tmp rfl _ _ _, rfl, HE.out _⟩
    case stop =>
      rintro c k W _ h _
      exact h.elim
/-- what all three laws lean on -/
theorem run_at {w0 : World} (hg : w0.cell? ⟨0, 0, none⟩ = some handleV) (ht : TabAt w0) (hm : MaxAt w0) : RunAt w0 := fun t w hb hl => rrun t w (cell_later hb hg) (ht.later hb) (hm.later hb) hl
end Ev
end Go.Proofs.YtpnmmmlckdkcdakGreatDoor
