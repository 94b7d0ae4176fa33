/- Package run's lines: the lines of a text, one behind the other, as an iterator hands them on. -/
import Derived.Test.YtpnmmmlckdkcdakGreatDoorRnShelf
import Derived.Test.YtpnmmmlckdkcdakGreatDoorPlains
import Derived.Test.YtpnmmmlckdkcdakGreatDoorLgLI
namespace Go.Proofs.YtpnmmmlckdkcdakGreatDoor
namespace Ev
open Go.RowKit Go.Shelf Ns Fl
set_option linter.unusedSimpArgs false
set_option linter.unusedVariables false
attribute [local go_sem] Oper.semAt_some

/-- the library's bound for its quick search holds some number -/
def MaxAt (w : World) : Prop := ∃ m, w.cell? ⟨1, 0, none⟩ = some (.int .i64 m)
theorem MaxAt.later {w w' : World} (h : MaxAt w) (hb : Below w.heap.size w w') : MaxAt w' := by
  obtain ⟨m, h⟩ := h
  exact ⟨m, cell_later hb h⟩
theorem MaxAt.lt {w : World} (h : MaxAt w) : 1 < w.heap.size := by obtain ⟨m, h⟩ := h; exact World.block_lt_of_cell? _ _ h
theorem rcut (s : Txt) (w : World) (hm : MaxAt w) (hl : s.length ≤ 3000) :
    Calls Tryz.prog 80 #[.string ⟨s.toArray⟩, .string ⟨#[10]⟩] w fun e w' => e = .returned (.tuple #[.string ⟨(Lib.cut s [10]).1.toArray⟩, .string ⟨(Lib.cut s [10]).2.1.toArray⟩, .bool (Lib.cut s [10]).2.2]) ∧ ∃ n, w' = w.drewN n := by
  obtain ⟨m, hm⟩ := hm
  have := Tryz.strings_Cut ⟨s.toArray⟩ ⟨#[10]⟩ m w (by rw [txt_len]; omega) hm
  simpa using this
theorem rlines_any (t : Txt) (u : World) : Calls Tryz.prog 46 #[.string ⟨t.toArray⟩] u fun e w' => e = .returned (.func (.func 79) #[] #[.pointer (some ⟨u.heap.size, 0, none⟩)]) ∧ w' = u.alloc (.cells #[.string ⟨t.toArray⟩] 9) := by
  go_enter Tryz.func46, Tryz.ntmps46
  go_wp2
  go_ret
  exact ⟨rfl, rfl⟩
def strLen : Value → Nat
  | .string b => b.size
  | _ => 0
/-- the blocks that the iterator reads -/
def lineG (Bb : Nat) (b : Nat) : Prop := b = Bb ∨ b = 1
theorem butIn_drewN (H : Nat → Prop) (U : World) (n : Nat) : ButIn H U (U.drewN n) := ButIn.of_below (below_drewN (Below.refl _ _) _)
theorem max_stays {Bb : Nat} {w u : World} (h : MaxAt w) (hs : Stays (lineG Bb) w u) : MaxAt u := by
  obtain ⟨m, h⟩ := h
  exact ⟨m, by rw [World.cell?_of_block (w := w) (a := ⟨1, 0, none⟩) (hs _ (.inr rfl))]; exact h⟩

set_option maxRecDepth 100000 in
set_option maxHeartbeats 4000000 in
theorem rlines_go (Bb N : Nat) (t : Txt) (w : World) (hb : w.cell? ⟨Bb, 0, none⟩ = some (.string ⟨t.toArray⟩)) (hm : MaxAt w) (ht : t.length ≤ 3000) (hN : N = (linesT t).length) :
    SeqGo Tryz.prog 79 #[.pointer (some ⟨Bb, 0, none⟩)] (fun k => #[.string ⟨((linesT t).getD k []).toArray⟩]) N (lineG Bb) (fun _ => False) w := by
  intro l J Jx W hW hJ hJx hY h0
  have hbl : Bb < w.heap.size := World.block_lt_of_cell? _ _ hb
  obtain ⟨hL1, hL2⟩ := lines_go t.length t (Nat.le_refl _)
  rw [← hN] at hL1 hL2
  refine callsIn_of_wp Tryz.func79 rfl trivial ?_ rfl
  simp only [Tryz.ntmps79, List.size_toArray, List.length_cons, List.length_nil, Nat.reduceAdd, Nat.reduceSub, Array.replicate_succ, Array.replicate_zero, List.push_toArray, List.append_toArray, List.nil_append, List.cons_append]
  have hbW : W.cell? ⟨Bb, 0, none⟩ = some (.string ⟨t.toArray⟩) := cell_later hW hb
  have HL : Hid (∀ k, k < N → restT t k ≠ [] ∧ (Lib.cut (restT t k) [10]).1 = (linesT t).getD k [] ∧ (Lib.cut (restT t k) [10]).2.1 = restT t (k + 1)) := fun k hk => ⟨(hL1 k hk).1, (hL1 k hk).2, (restT_succ t k).symm⟩
  have HE : Hid (restT t N = []) := hL2
  have HC : Hid (∀ (k : Nat) (u : World), Stays (lineG Bb) w u → Calls Tryz.prog 80 #[.string ⟨(restT t k).toArray⟩, .string ⟨#[10]⟩] u fun e w' => e = .returned (.tuple #[.string ⟨(Lib.cut (restT t k) [10]).1.toArray⟩, .string ⟨(Lib.cut (restT t k) [10]).2.1.toArray⟩, .bool (Lib.cut (restT t k) [10]).2.2]) ∧ ∃ n, w' = u.drewN n) := fun k u hs => rcut _ u (max_stays hm hs) (by have := restT_len t k; omega)
  have HS0 : Hid (Stays (lineG Bb) w W) := fun b hb' => hW.block b (by
    rcases hb' with rfl | rfl
    · exact hbl
    · exact hm.lt)
  have HJ : Hid (∀ k U n, J k U → J k (U.drewN n)) := fun k U n h => hJ k U _ h (butIn_drewN _ _ _)
  have HLen : Hid (∀ k, k < N → (restT t (k + 1)).length < (restT t k).length) := fun k hk => by
    rw [restT_succ]
    rcases byte_part 10 (restT t k) with h | ⟨a, r, e, h⟩
    · rw [cut_no h]; exact List.length_pos_iff.2 (hL1 k hk).1
    · rw [e, cut_at h]; simp; omega
  have HR0 : Hid (restT t 0 = t) := rfl
  generalize (linesT t) = LT at *
  clear hL1 hL2 hb hm hN
  gi_wp2
  gi_loopw [3, 4] (fun s3 _ wr => ∃ (k : Nat), k ≤ N ∧ s3 = .string ⟨(restT t k).toArray⟩ ∧ J k wr ∧ Stays (lineG Bb) w wr) (fun s3 _ _ => strLen s3)
  case atStart => exact ⟨0, by omega, by rw [HR0.out], h0, HS0.out⟩
  case round =>
    obtain ⟨k, hk, rfl, hJs, hbw⟩ := hrel
    by_cases hkn : k < N
    · obtain ⟨r1, r2, r3⟩ := HL.out k hkn
      have hlen := HLen.out k hkn
      have HC1 := HC.out k _ hbw
      obtain ⟨Lk, hLk⟩ : ∃ x, LT.getD k [] = x := ⟨_, rfl⟩
      rw [r2, r3, hLk] at HC1
      have HC2 : Hid _ := HC1
      clear HC1
      generalize (Lib.cut (restT t k) [10]).2.2 = fnd at *
      have hie : (restT t k).isEmpty = false := by simpa using r1
      have hne : ((⟨(restT t k).toArray⟩ : ByteArray).toList == []) = false := by rw [ByteArray.toList_mk]; simp [r1]
      have hsz1 : (⟨(restT t (k + 1)).toArray⟩ : ByteArray).size = (restT t (k + 1)).length := txt_len _
      have hsz0 : (⟨(restT t k).toArray⟩ : ByteArray).size = (restT t k).length := txt_len _
      clear r2 r3
      generalize restT t k = R0 at *
      generalize hR1 : restT t (k + 1) = R1 at *
      gi_wp2
      refine ⟨trivial, (callsIn_wide.2 HC2.out).mono ?_⟩
      rintro e w2 ⟨rfl, n, rfl⟩
      have hst : Stays (lineG Bb) w (wr.drewN n) := hbw.trans (fun _ _ => rfl)
      obtain ⟨fn, tmps, assign, body, hy, hR⟩ := hY k (wr.drewN n) hkn (HJ.out _ _ n hJs)
      generalize wr.drewN n = wn at *
      simp only [hLk] at hy
      clear hLk
      gi_wp2
      refine hR.mono ?_
      rintro e W3 (⟨rfl, hJ3, hk3⟩ | ⟨rfl, hJx3⟩)
      · gi_wp2
        go_roundw
        case rel => exact ⟨k + 1, by omega, by rw [hR1], hJ3, hst.trans hk3⟩
        case measure => simp [strLen]; omega
      · gi_wp2
        refine bodyPost_ret (results_none rfl _ _ _) rfl ?_
        exact ⟨⟨_, rfl⟩, .inr ⟨k + 1, by omega, hJx3⟩⟩
    · obtain rfl : k = N := by omega
      rw [HE.out]
      gi_wp2
      go_end0
      exact ⟨⟨_, rfl⟩, .inl hJs⟩
end Ev
end Go.Proofs.YtpnmmmlckdkcdakGreatDoor
