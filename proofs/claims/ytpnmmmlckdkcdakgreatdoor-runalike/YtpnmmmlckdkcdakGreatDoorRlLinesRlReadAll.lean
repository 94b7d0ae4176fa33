/- Pieces of one walk, one text behind the other. -/
import Derived.Test.YtpnmmmlckdkcdakGreatDoorRnShelf
import Derived.Test.YtpnmmmlckdkcdakGreatDoorPlains
import Derived.Test.YtpnmmmlckdkcdakGreatDoorLgLI
import Derived.Test.YtpnmmmlckdkcdakGreatDoorRlWants
import Derived.Test.YtpnmmmlckdkcdakGreatDoorRlNum
import Derived.Deep.DeepCutAuto
import Derived.Deep.QuietTactic
import Derived.BigQuiet
/- Package run's lines: the lines of a text, one behind the other, as an iterator hands them on. -/
namespace Go.Proofs.YtpnmmmlckdkcdakGreatDoor
namespace Ev
open Go.RowKit Go.Shelf Ns Fl
set_option linter.unusedSimpArgs false
set_option linter.unusedVariables false
attribute [local go_sem] Oper.semAt_some

/-- the library's bound for its quick search holds some number -/
def MaxAt (w : World) : Prop := ∃ m, w.cell? ⟨1, 0, none⟩ = some (.int .i64 m)
theorem MaxAt.later {w w' : World} (h : MaxAt w) (hb : Below w.heap.size w w') : MaxAt w' := by
  obtain ⟨m, h⟩ := h
  exact ⟨m, cell_later hb h⟩
theorem MaxAt.lt {w : World} (h : MaxAt w) : 1 < w.heap.size := by obtain ⟨m, h⟩ := h; exact World.block_lt_of_cell? _ _ h
theorem rcut (s : Txt) (w : World) (hm : MaxAt w) (hl : s.length ≤ 3000) :
    Calls Tryz.prog 80 #[.string ⟨s.toArray⟩, .string ⟨#[10]⟩] w fun e w' => e = .returned (.tuple #[.string ⟨(Lib.cut s [10]).1.toArray⟩, .string ⟨(Lib.cut s [10]).2.1.toArray⟩, .bool (Lib.cut s [10]).2.2]) ∧ ∃ n, w' = w.drewN n := by
  obtain ⟨m, hm⟩ := hm
  have := Tryz.strings_Cut ⟨s.toArray⟩ ⟨#[10]⟩ m w (by rw [txt_len]; omega) hm
  simpa using this
theorem rlines_any (t : Txt) (u : World) : Calls Tryz.prog 46 #[.string ⟨t.toArray⟩] u fun e w' => e = .returned (.func (.func 79) #[] #[.pointer (some ⟨u.heap.size, 0, none⟩)]) ∧ w' = u.alloc (.cells #[.string ⟨t.toArray⟩] 9) := by
  go_enter Tryz.func46, Tryz.ntmps46
  go_wp2
  go_ret
  exact ⟨rfl, rfl⟩
def strLen : Value → Nat
  | .string b => b.size
  | _ => 0
/-- the blocks that the iterator reads -/
def lineG (Bb : Nat) (b : Nat) : Prop := b = Bb ∨ b = 1
theorem butIn_drewN (H : Nat → Prop) (U : World) (n : Nat) : ButIn H U (U.drewN n) := ButIn.of_below (below_drewN (Below.refl _ _) _)
theorem max_stays {Bb : Nat} {w u : World} (h : MaxAt w) (hs : Stays (lineG Bb) w u) : MaxAt u := by
  obtain ⟨m, h⟩ := h
  exact ⟨m, by rw [World.cell?_of_block (w := w) (a := ⟨1, 0, none⟩) (hs _ (.inr rfl))]; exact h⟩

set_option maxRecDepth 100000 in
set_option maxHeartbeats 4000000 in
theorem rlines_go (Bb N : Nat) (t : Txt) (w : World) (hb : w.cell? ⟨Bb, 0, none⟩ = some (.string ⟨t.toArray⟩)) (hm : MaxAt w) (ht : t.length ≤ 3000) (hN : N = (linesT t).length) :
    SeqGo Tryz.prog 79 #[.pointer (some ⟨Bb, 0, none⟩)] (fun k => #[.string ⟨((linesT t).getD k []).toArray⟩]) N (lineG Bb) (fun _ => False) w := by
  intro l J Jx W hW hJ hJx hY h0
  have hbl : Bb < w.heap.size := World.block_lt_of_cell? _ _ hb
  obtain ⟨hL1, hL2⟩ := lines_go t.length t (Nat.le_refl _)
  rw [← hN] at hL1 hL2
  refine callsIn_of_wp Tryz.func79 rfl trivial ?_ rfl
  simp only [Tryz.ntmps79, List.size_toArray, List.length_cons, List.length_nil, Nat.reduceAdd, Nat.reduceSub, Array.replicate_succ, Array.replicate_zero, List.push_toArray, List.append_toArray, List.nil_append, List.cons_append]
  have hbW : W.cell? ⟨Bb, 0, none⟩ = some (.string ⟨t.toArray⟩) := cell_later hW hb
  have HL : Hid (∀ k, k < N → restT t k ≠ [] ∧ (Lib.cut (restT t k) [10]).1 = (linesT t).getD k [] ∧ (Lib.cut (restT t k) [10]).2.1 = restT t (k + 1)) := fun k hk => ⟨(hL1 k hk).1, (hL1 k hk).2, (restT_succ t k).symm⟩
  have HE : Hid (restT t N = []) := hL2
  have HC : Hid (∀ (k : Nat) (u : World), Stays (lineG Bb) w u → Calls Tryz.prog 80 #[.string ⟨(restT t k).toArray⟩, .string ⟨#[10]⟩] u fun e w' => e = .returned (.tuple #[.string ⟨(Lib.cut (restT t k) [10]).1.toArray⟩, .string ⟨(Lib.cut (restT t k) [10]).2.1.toArray⟩, .bool (Lib.cut (restT t k) [10]).2.2]) ∧ ∃ n, w' = u.drewN n) := fun k u hs => rcut _ u (max_stays hm hs) (by have := restT_len t k; omega)
  have HS0 : Hid (Stays (lineG Bb) w W) := fun b hb' => hW.block b (by
    rcases hb' with rfl | rfl
    · exact hbl
    · exact hm.lt)
  have HJ : Hid (∀ k U n, J k U → J k (U.drewN n)) := fun k U n h => hJ k U _ h (butIn_drewN _ _ _)
  have HLen : Hid (∀ k, k < N → (restT t (k + 1)).length < (restT t k).length) := fun k hk => by
    rw [restT_succ]
    rcases byte_part 10 (restT t k) with h | ⟨a, r, e, h⟩
    · rw [cut_no h]; exact List.length_pos_iff.2 (hL1 k hk).1
    · rw [e, cut_at h]; simp; omega
  have HR0 : Hid (restT t 0 = t) := rfl
  generalize (linesT t) = LT at *
  clear hL1 hL2 hb hm hN
  gi_wp2
  gi_loopw [3, 4] (fun s3 _ wr => ∃ (k : Nat), k ≤ N ∧ s3 = .string ⟨(restT t k).toArray⟩ ∧ J k wr ∧ Stays (lineG Bb) w wr) (fun s3 _ _ => strLen s3)
  case atStart => exact ⟨0, by omega, by rw [HR0.out], h0, HS0.out⟩
  case round =>
    obtain ⟨k, hk, rfl, hJs, hbw⟩ := hrel
    by_cases hkn : k < N
    · obtain ⟨r1, r2, r3⟩ := HL.out k hkn
      have hlen := HLen.out k hkn
      have HC1 := HC.out k _ hbw
      obtain ⟨Lk, hLk⟩ : ∃ x, LT.getD k [] = x := ⟨_, rfl⟩
      rw [r2, r3, hLk] at HC1
      have HC2 : Hid _ := HC1
      clear HC1
      generalize (Lib.cut (restT t k) [10]).2.2 = fnd at *
      have hie : (restT t k).isEmpty = false := by simpa using r1
      have hne : ((⟨(restT t k).toArray⟩ : ByteArray).toList == []) = false := by rw [ByteArray.toList_mk]; simp [r1]
      have hsz1 : (⟨(restT t (k + 1)).toArray⟩ : ByteArray).size = (restT t (k + 1)).length := txt_len _
      have hsz0 : (⟨(restT t k).toArray⟩ : ByteArray).size = (restT t k).length := txt_len _
      clear r2 r3
      generalize restT t k = R0 at *
      generalize hR1 : restT t (k + 1) = R1 at *
      gi_wp2
      refine ⟨trivial, (callsIn_wide.2 HC2.out).mono ?_⟩
      rintro e w2 ⟨rfl, n, rfl⟩
      have hst : Stays (lineG Bb) w (wr.drewN n) := hbw.trans (fun _ _ => rfl)
      obtain ⟨fn, tmps, assign, body, hy, hR⟩ := hY k (wr.drewN n) hkn (HJ.out _ _ n hJs)
      generalize wr.drewN n = wn at *
      simp only [hLk] at hy
      clear hLk
      gi_wp2
      refine hR.mono ?_
      rintro e W3 (⟨rfl, hJ3, hk3⟩ | ⟨rfl, hJx3⟩)
      · gi_wp2
        go_roundw
        case rel => exact ⟨k + 1, by omega, by rw [hR1], hJ3, hst.trans hk3⟩
        case measure => simp [strLen]; omega
      · gi_wp2
        refine bodyPost_ret (results_none rfl _ _ _) rfl ?_
        exact ⟨⟨_, rfl⟩, .inr ⟨k + 1, by omega, hJx3⟩⟩
    · obtain rfl : k = N := by omega
      rw [HE.out]
      gi_wp2
      go_end0
      exact ⟨⟨_, rfl⟩, .inl hJs⟩
end Ev
end Go.Proofs.YtpnmmmlckdkcdakGreatDoor

/- Package run's read: a line's word and its numbers, or that it is none. -/
namespace Go.Proofs.YtpnmmmlckdkcdakGreatDoor
namespace Ev
open Go.RowKit Go.Shelf Fr Ns Ld Fl
set_option linter.unusedSimpArgs false
set_option linter.unusedVariables false

theorem rsplit (s : Txt) (w : World) (hm : MaxAt w) (hl : s.length ≤ 3000) :
    Calls Tryz.prog 109 #[.string ⟨s.toArray⟩, .string ⟨#[32]⟩] w fun e w' => e = .returned (.slice (some ⟨w.heap.size, 0, none⟩) (cutB 32 s).length (cutB 32 s).length) ∧ w' = w.alloc (.cells ((cutB 32 s).map txtV).toArray 9) := by
  obtain ⟨m, hm⟩ := hm
  have := Tryz.strings_Split ⟨s.toArray⟩ ⟨#[32]⟩ m w (by rw [txt_len]; omega) hm (by decide)
  have e1 : (Lib.splitB ⟨#[32]⟩ 0 (Lib.countB ⟨s.toArray⟩ ⟨#[32]⟩) ⟨s.toArray⟩).map (·.data.toList) = cutB 32 s := by
    rw [Lib.splitB_data]
    exact split_words s
  have e2 : (Lib.splitB ⟨#[32]⟩ 0 (Lib.countB ⟨s.toArray⟩ ⟨#[32]⟩) ⟨s.toArray⟩).map Value.string = (cutB 32 s).map txtV := by
    rw [← e1, List.map_map]
    refine List.map_congr_left fun b _ => ?_
    show Value.string b = .string ⟨b.data.toList.toArray⟩
    simp
  have e3 : Lib.countB ⟨s.toArray⟩ ⟨#[32]⟩ + 1 = (cutB 32 s).length := by
    rw [← e1, List.length_map, Lib.splitB_all _ (by decide) 0 _ _ rfl]
  rw [e2, e3] at this
  exact this

theorem infoZr : (Tryz.prog.info? 3).map (fun i => (i.zero, i.size, i.bytes)) = some (some (.int .i64 0), 1, 8) := by kernel_rfl
/-- what read makes of a line -/
def ReadOut (w : World) (s : Txt) (e : Ending) (w' : World) : Prop :=
  Below w.heap.size w w' ∧ ((fitsT s = true ∧ ∃ y, e = .returned (.tuple #[.string ⟨(wordT s).toArray⟩, y, .nilIface]) ∧ IntsAt (fun b => w.heap.size ≤ b) w' y (numsT s)) ∨ (fitsT s = false ∧ e = .returned (.tuple #[.string ⟨#[]⟩, .slice none 0 0, lineV])))
/-- as the landed code asks it -/
def fitsW (s : Txt) : Bool := (wantOf (wordT s)).isSome && !decide (((cutB 32 s).tail.length : Int) < wantL (wordT s)) && !decide (wantM (wordT s) < ((cutB 32 s).tail.length : Int)) && readT s
theorem fits_w {s : Txt} (h : s.length ≤ 3000) : fitsT s = fitsW s := by
  have hn : (numsT s).length = (cutB 32 s).tail.length := by simp [numsT]
  have hc := cutB_length 32 s
  have hne : (cutB 32 s).tail.length ≤ 3000 := by rw [List.length_tail]; omega
  unfold fitsT fitsW wantL wantM wantOf
  rw [hn]
  generalize (cutB 32 s).tail.length = n at *
  generalize readT s = rd
  generalize wordT s = wd
  have K : ∀ (p q : Bool) , (p = true ↔ q = true) → p = q := fun p q => Bool.eq_iff_iff.2
  by_cases h1 : wd = tAdd
  · subst h1; refine K _ _ ?_; cases rd <;> simp <;> omega
  · by_cases h2 : wd = tDrop
    · subst h2; refine K _ _ ?_; cases rd <;> simp [tDrop, tAdd, tIndex] <;> omega
    · by_cases h3 : wd = tRates
      · subst h3; refine K _ _ ?_; cases rd <;> simp [tDrop, tAdd, tIndex, tRates] <;> omega
      · by_cases h4 : wd = tLeast
        · subst h4; refine K _ _ ?_; cases rd <;> simp [tDrop, tAdd, tIndex, tRates, tLeast] <;> omega
        · by_cases h5 : wd = tIndex
          · subst h5; refine K _ _ ?_; cases rd <;> simp [tDrop, tAdd, tIndex, tRates, tLeast] <;> omega
          · by_cases h6 : wd = tSplit
            · subst h6; refine K _ _ ?_; cases rd <;> simp [tDrop, tAdd, tIndex, tRates, tLeast, tSplit] <;> omega
            · cases rd <;> simp [h1, h2, h3, h4, h5, h6]
theorem cutB_len {c : UInt8} {s p : Txt} (h : p ∈ cutB c s) : p.length ≤ s.length := by
  induction s generalizing p with
  | nil => simp [cutB] at h; subst h; simp
  | cons y r ih =>
    simp only [cutB] at h
    split at h
    · rcases List.mem_cons.1 h with h | h
      · subst h; simp
      · have := ih h; simp; omega
    · rcases List.mem_cons.1 h with h | h
      · have := ih (p := (cutB c r).headD []) (by rw [cutB_cons c r]; simp)
        subst h; simp at this ⊢; omega
      · have := ih (List.mem_of_mem_tail h); simp; omega

set_option maxRecDepth 100000 in
set_option maxHeartbeats 2000000 in
theorem rread (s : Txt) (a : Value) (r : Nat) (w : World) (hm : MaxAt w) (hr : w.heap[r]? = some (.map wantsM 6)) (hl : s.length ≤ 3000) :
    Calls Tryz.prog 82 #[.agg #[a, .map (some r)], .string ⟨s.toArray⟩] w (ReadOut w s) := by
  have hrl : r < w.heap.size := (Array.getElem?_eq_some_iff.1 hr).1
  have hB1 : Below w.heap.size w (w.alloc (.cells #[a, .map (some r)] 87)) := (Below.refl _ _).alloc (Nat.le_refl _) _
  have HS : Hid (Calls Tryz.prog 109 #[.string ⟨s.toArray⟩, .string ⟨#[32]⟩] (w.alloc (.cells #[a, .map (some r)] 87)) fun e w' => e = .returned (.slice (some ⟨(w.alloc (.cells #[a, .map (some r)] 87)).heap.size, 0, none⟩) (cutB 32 s).length (cutB 32 s).length) ∧ w' = (w.alloc (.cells #[a, .map (some r)] 87)).alloc (.cells ((cutB 32 s).map txtV).toArray 9)) := rsplit s (w.alloc (.cells #[a, .map (some r)] 87)) (hm.later hB1) hl
  obtain ⟨wd, LT, hL⟩ : ∃ wd LT, cutB 32 s = wd :: LT := ⟨_, _, cutB_cons 32 s⟩
  have hwd : wordT s = wd := by simp [wordT, hL]
  have HF : Hid (fitsT s = ((wantOf wd).isSome && !decide ((LT.length : Int) < wantL wd) && !decide (wantM wd < (LT.length : Int)) && LT.all numOk)) := by
    show _ = _
    rw [fits_w hl, fitsW, readT, hwd, hL]; rfl
  have hnL : LT.length ≤ 3000 := by have := cutB_length 32 s; rw [hL] at this; simp at this; omega
  have HNums : Hid (numsT s = LT.map numV) := by show _ = _; rw [numsT, hL]; rfl
  have HLe : Hid (∀ t ∈ LT, t.length ≤ 1000000) := fun t ht => by
    have := cutB_len (c := 32) (s := s) (p := t) (by rw [hL]; exact List.mem_cons_of_mem _ ht)
    omega
  rw [hL] at HS
  obtain ⟨i0, hi0, hz0, hz1, hz2⟩ := info_parts infoZr
  obtain ⟨Z, hZ, hmk⟩ : ∃ Z : Array Value, Z.toList = (List.replicate LT.length (0 : Int)).map (Value.int .i64) ∧ ∀ u : World, (Instr.makeSlice 22 (.int .i64 LT.length) (.int .i64 LT.length)).run Tryz.prog u = .ok (.slice (some ⟨u.heap.size, 0, none⟩) LT.length LT.length) (u.alloc (.cells Z 3)) := by
    refine ⟨madeCells #[.int .i64 0] LT.length, madeI _, fun u => ?_⟩
    have hr := run_make (P := Tryz.prog) u 22 3 i0 (.int .i64 0) Tryz.underlying22 hi0 hz0 .i64 .i64 LT.length LT.length (by omega) (Int.le_refl _) (by rw [hz2]; omega) (by omega)
    simpa [hz1, Value.cells] using hr
  have HN : Hid (∀ k, k < LT.length → ∀ u, Calls Tryz.prog 110 #[.string ⟨(LT.getD k []).toArray⟩] u fun e w' => e = .returned (.tuple #[.int .i64 (numN (LT.getD k [])), numE (LT.getD k [])]) ∧ w' = u) := fun k hk u => rnumber_any _ u (HLe.out _ (getD_mem LT k hk []))
  have HNk : Hid (∀ k, k < LT.length → numOk (LT.getD k []) = true → numN (LT.getD k []) = numV (LT.getD k []) ∧ numE (LT.getD k []) = .nilIface) := fun k hk h => ⟨by rw [numN, if_pos h], by rw [numE, if_pos h]⟩
  have HNb : Hid (∀ k, k < LT.length → numOk (LT.getD k []) = false → numE (LT.getD k []) = lineV ∧ LT.all numOk = false) := fun k hk h => ⟨by rw [numE, h]; rfl, by
    rw [Bool.eq_false_iff]
    intro e
    have := List.all_eq_true.1 e _ (getD_mem LT k hk [])
    rw [h] at this
    cases this⟩
  have HAll : Hid ((∀ k, k < LT.length → numOk (LT.getD k []) = true) → LT.all numOk = true) := fun h => by
    rw [List.all_eq_true]
    intro x hx
    obtain ⟨k, hk, rfl⟩ := List.mem_iff_getElem.1 hx
    have := h k hk
    rwa [List.getD, List.getElem?_eq_getElem hk] at this
  have HTk : Hid (∀ k, k < LT.length → (LT.map numV).take (k + 1) = (LT.map numV).take k ++ [numV (LT.getD k [])]) := fun k hk => by
    rw [List.take_add_one, List.getElem?_map, List.getD, List.getElem?_eq_getElem hk]; rfl
  have HLn : Hid ((LT.map numV).length = LT.length) := by show _ = _; simp
  have HCe : Hid (∀ k, k < LT.length → ((wd :: LT).map txtV)[1 + k]? = some (.string ⟨(LT.getD k []).toArray⟩)) := fun k hk => by
    rw [Nat.add_comm, List.map_cons, List.getElem?_cons_succ, List.getElem?_map, List.getD, List.getElem?_eq_getElem hk]; rfl
  unfold ReadOut
  rw [hwd]
  generalize fitsT s = FT at *
  generalize numsT s = NT at *
  go_enter Tryz.func82, Tryz.ntmps82
  go_wp2_with fail
  refine HS.out.mono ?_
  rintro e w2 ⟨rfl, rfl⟩
  go_wp2_with fail
  obtain ⟨W, hW⟩ : ∃ W, W = (w.alloc (.cells #[a, .map (some r)] 87)).alloc (.cells ((wd :: LT).map txtV).toArray 9) := ⟨_, rfl⟩
  have zW : W.heap.size = w.heap.size + 2 := by rw [hW]; simp
  have BW : Below w.heap.size w W := by rw [hW]; exact hB1.alloc (by simp) _
  have RB : RowAt W w.heap.size 87 [a, .map (some r)] := by rw [hW]; exact (row_made w _ _ _ _ rfl rfl).alloc _
  have RW : RowAt W (w.heap.size + 1) 9 ((wd :: LT).map txtV) := by rw [hW]; exact row_made _ _ _ _ _ (by simp) (by simp)
  have RM : W.heap[r]? = some (.map wantsM 6) := by rw [BW.block r hrl]; exact hr
  have hW' : W = (w.alloc (.cells #[a, .map (some r)] 87)).alloc (.cells (txtV wd :: LT.map txtV).toArray 9) := hW
  rw [← hW']
  clear hW hW' HS
  have c0 : W.cell? ⟨w.heap.size + 1, 0, none⟩ = some (.string ⟨wd.toArray⟩) := RW.cell rfl
  have l0 : w.heap.size + 1 < W.heap.size := by omega
  go_quiet (fail)
  obtain ⟨A, hA⟩ : ∃ A : Option Addr, (if LT = [] then some (⟨w.heap.size + 1, 0, none⟩ : Addr) else some ⟨w.heap.size + 1, 1, none⟩) = A := ⟨_, rfl⟩
  rw [hA]
  have HA : Hid (0 < LT.length → A = some ⟨w.heap.size + 1, 1, none⟩) := fun h => by rw [← hA, if_neg (by rintro rfl; simp at h)]
  have RBu : RowAt (W.drewN nq) w.heap.size 87 [a, .map (some r)] := RB
  have RWu : RowAt (W.drewN nq) (w.heap.size + 1) 9 ((wd :: LT).map txtV) := RW
  have RMu : (W.drewN nq).heap[r]? = some (.map wantsM 6) := RM
  have BWu : Below w.heap.size w (W.drewN nq) := below_drewN BW _
  have zWu : (W.drewN nq).heap.size = w.heap.size + 2 := zW
  clear hA c0 l0 RB RW RM BW zW
  generalize W.drewN nq = u at *
  have d1 := RBu.cell (i := 1) rfl
  have lB := RBu.lt
  have hlk := look_want (w := u) wd RMu
  have HRW : Hid (RowAt u (w.heap.size + 1) 9 ((wd :: LT).map txtV)) := RWu
  have HBu : Hid (Below w.heap.size w u) := BWu
  have HNe : Hid (∀ o, Below w.heap.size w (u.alloc o)) := fun o => HBu.out.alloc (by omega) o
  clear RBu RWu RMu BWu
  generalize (wantOf wd).isSome = kn at *
  generalize wantL wd = lo at *
  generalize wantM wd = hi at *
  by_cases hk : kn = true ∧ ¬ (LT.length : Int) < lo ∧ ¬ hi < (LT.length : Int)
  · obtain ⟨rfl, h1, h2⟩ := hk
    have HF2 : Hid (FT = LT.all numOk) := by show _ = _; rw [HF.out]; simp [h1, h2]
    clear HF
    have HV0 : Hid (RowAt ((u.alloc (.cells #[.int .i64 lo, .int .i64 hi] 165)).alloc (.cells Z 3)) (w.heap.size + 3) 3 (((LT.map numV).take 0 ++ List.replicate (LT.length - 0) 0).map (Value.int .i64))) := row_made _ _ _ _ _ (by simp; omega) (by rw [hZ]; simp)
    have HW0 : Hid (RowAt ((u.alloc (.cells #[.int .i64 lo, .int .i64 hi] 165)).alloc (.cells Z 3)) (w.heap.size + 1) 9 ((wd :: LT).map txtV)) := (HRW.out.alloc _).alloc _
    have HB0 : Hid (Below w.heap.size w ((u.alloc (.cells #[.int .i64 lo, .int .i64 hi] 165)).alloc (.cells Z 3))) := (HNe.out _).alloc (by simp; omega) _
    generalize LT.map numV = NL at *
    clear hZ
    go_wp2_with fail
    generalize (u.alloc (.cells #[.int .i64 lo, .int .i64 hi] 165)).alloc (.cells Z 3) = V at *
    go_loopw [13, 14, 15, 16, 54] (fun _ _ _ _ i wr => ∃ k : Nat, k ≤ LT.length ∧ i = .int .i64 k ∧ Hid (RowAt wr (w.heap.size + 3) 3 ((NL.take k ++ List.replicate (LT.length - k) 0).map (Value.int .i64))) ∧ Hid (RowAt wr (w.heap.size + 1) 9 ((wd :: LT).map txtV)) ∧ Hid (Below w.heap.size w wr) ∧ Hid (∀ j, j < k → numOk (LT.getD j []) = true)) (fun _ _ _ _ i _ => LT.length - (intOf i).toNat)
    case atStart => exact ⟨0, by omega, rfl, HV0, HW0, HB0, fun j hj => absurd hj (by omega)⟩
    case round =>
      clear HV0 HW0 HB0 HNe HRW HBu
      obtain ⟨k, hk, rfl, hro, hwo, hbe, hall⟩ := hrel
      by_cases hlt : k < LT.length
      · obtain rfl := HA.out (by omega)
        have c0 := hwo.out.cell (HCe.out k hlt)
        have l0 := hwo.out.lt
        have HN1 := HN.out k hlt wr
        have hnk := HNk.out k hlt
        have hnb := HNb.out k hlt
        have htk := HTk.out k hlt
        clear HA HN HNk HNb HTk HCe
        by_cases hok : numOk (LT.getD k []) = true
        · obtain ⟨n1, n2⟩ := hnk hok
          rw [n1, n2] at HN1
          have HN2 : Hid (Calls Tryz.prog 110 #[.string ⟨(LT.getD k []).toArray⟩] wr fun e w' => e = .returned (.tuple #[.int .i64 (numV (LT.getD k [])), .nilIface]) ∧ w' = wr) := HN1
          have HAl2 : Hid (∀ j, j < k + 1 → numOk (LT.getD j []) = true) := fun j hj => by
            rcases Nat.lt_succ_iff_lt_or_eq.1 hj with h | rfl
            · exact hall.out j h
            · exact hok
          have HR2 : Hid (RowAt (wr.setCell ⟨w.heap.size + 3, k, none⟩ (.int .i64 (numV (LT.getD k [])))) (w.heap.size + 3) 3 ((NL.take (k + 1) ++ List.replicate (LT.length - (k + 1)) 0).map (Value.int .i64))) := row_set hro.out (by rw [List.length_take, HLn.out]; omega) hlt htk
          have HW2 : Hid (RowAt (wr.setCell ⟨w.heap.size + 3, k, none⟩ (.int .i64 (numV (LT.getD k [])))) (w.heap.size + 1) 9 ((wd :: LT).map txtV)) := hwo.out.other (by simp) _
          have HB2 : Hid (Below w.heap.size w (wr.setCell ⟨w.heap.size + 3, k, none⟩ (.int .i64 (numV (LT.getD k []))))) := hbe.out.setCell (by simp) _
          have hlen : k < ((NL.take k ++ List.replicate (LT.length - k) 0).map (Value.int .i64)).length := by have := HLn.out; simp; omega
          obtain ⟨z, cz⟩ : ∃ z, wr.cell? ⟨w.heap.size + 3, k, none⟩ = some z := ⟨_, hro.out.cell (List.getElem?_eq_getElem hlen)⟩
          have xz := hro.out.frozen k
          have lz := hro.out.lt
          clear HN1 hnk hnb htk hall hok hlen n1 n2 hro hwo hbe
          generalize numV (LT.getD k []) = x at *
          generalize LT.getD k [] = dg at *
          go_wp2_with fail
          refine HN2.out.mono ?_
          rintro e w2 ⟨rfl, rfl⟩
          go_wp2
          go_roundw
          case rel => exact ⟨k + 1, by omega, by go_num, HR2, HW2, HB2, HAl2⟩
          case measure => simp [intOf]; omega
        · have hno : numOk (LT.getD k []) = false := by simpa using hok
          obtain ⟨n1, n2⟩ := hnb hno
          rw [n1] at HN1
          have HN2 : Hid (Calls Tryz.prog 110 #[.string ⟨(LT.getD k []).toArray⟩] wr fun e w' => e = .returned (.tuple #[.int .i64 (numN (LT.getD k [])), lineV]) ∧ w' = wr) := HN1
          have HFT : Hid (FT = false) := HF2.out.trans n2
          clear HN1 hnk hnb htk hall hok hno n1 n2 hro
          generalize numN (LT.getD k []) = x at *
          generalize LT.getD k [] = dg at *
          go_wp2_with fail
          refine HN2.out.mono ?_
          rintro e w2 ⟨rfl, rfl⟩
          unfold lineV
          go_wp2
          exact bodyPost_ret (v := .tuple #[.string ⟨#[]⟩, .slice none 0 0, lineV]) (by simp [results, Tryz.results82, go_sem, lineV]) rfl ⟨hbe.out, .inr ⟨HFT.out, rfl⟩⟩
      · obtain rfl : k = LT.length := by omega
        have hFT := HF2.out.trans (HAll.out hall.out)
        have hro2 : RowAt wr (w.heap.size + 3) 3 (NL.map (Value.int .i64) ++ []) := by
          have := hro.out
          rw [Nat.sub_self, List.take_of_length_le (by rw [HLn.out]; exact Nat.le_refl _)] at this
          simpa using this
        have HI : Hid (IntsAt (fun b => w.heap.size ≤ b) wr (.slice (some ⟨w.heap.size + 3, 0, none⟩) LT.length LT.length) NT) := by
          have := intsRow (Q := fun b => w.heap.size ≤ b) (c := LT.length) hro2 (by rw [HLn.out]; exact Nat.le_refl _) (by rw [HLn.out]; omega) (by omega)
          rw [HLn.out] at this
          rw [HNums.out]; exact this
        have HFT : Hid (FT = true) := hFT
        clear hFT hro2 HA HN HNk HNb HTk HCe
        go_wp2_with fail
        exact bodyPost_ret (v := .tuple #[.string ⟨wd.toArray⟩, .slice (some ⟨w.heap.size + 3, 0, none⟩) LT.length LT.length, .nilIface]) (by simp [results, Tryz.results82, go_sem]) rfl ⟨hbe.out, .inl ⟨HFT.out, _, rfl, HI.out⟩⟩
  · have hFT : FT = false := by
      rw [HF.out]
      cases kn with
      | false => simp
      | true =>
        by_cases h1 : (LT.length : Int) < lo
        · simp [h1]
        · by_cases h2 : hi < (LT.length : Int)
          · simp [h2]
          · exact absurd ⟨rfl, h1, h2⟩ hk
    have HFT : Hid (FT = false) := hFT
    clear hFT HF
    have hc : kn = false ∨ (kn = true ∧ (LT.length : Int) < lo) ∨ (kn = true ∧ ¬ (LT.length : Int) < lo ∧ hi < (LT.length : Int)) := by
      cases kn with
      | false => exact .inl rfl
      | true =>
        by_cases h1 : (LT.length : Int) < lo
        · exact .inr (.inl ⟨rfl, h1⟩)
        · by_cases h2 : hi < (LT.length : Int)
          · exact .inr (.inr ⟨rfl, h1, h2⟩)
          · exact absurd ⟨rfl, h1, h2⟩ hk
    clear hk
    rcases hc with rfl | ⟨rfl, h1⟩ | ⟨rfl, h1, h2⟩
    all_goals
      go_wp2
      exact bodyPost_ret (v := .tuple #[.string ⟨#[]⟩, .slice none 0 0, lineV]) (by simp [results, Tryz.results82, go_sem, lineV]) rfl ⟨HNe.out _, .inr ⟨HFT.out, rfl⟩⟩
end Ev
end Go.Proofs.YtpnmmmlckdkcdakGreatDoor
