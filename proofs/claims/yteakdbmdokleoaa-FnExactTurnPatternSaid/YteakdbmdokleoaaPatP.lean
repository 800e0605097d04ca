/- The reading of brackets by the model and by the program. Condition: the text has at most 2^20 bytes. -/
import Derived.Test.YteakdbmdokleoaaPatS
import Derived.Test.YteakdbmdokleoaaParseS
import Derived.WalkSmall
namespace Go.Proofs.Yteakdbmdokleoaa
open Go.RowKit

/-- a text's bytes as numbers -/
def byt (l : List UInt8) (k : Nat) : Int := ((l.getD k 0).toNat : Int)
def reads (l : List UInt8) : Prop := 2 ≤ l.length ∧ l.length ≤ 12 ∧ ∃ P, runP l.length (byt l) l.length = some (P, [])
def readP (l : List UInt8) : List Int := match runP l.length (byt l) l.length with
  | some (P, _) => P
  | none => []

theorem byt_at {l : List UInt8} {k : Nat} {b : UInt8} (h : l[k]? = some b) : byt l k = (b.toNat : Int) := by unfold byt; rw [List.getD, h]; rfl
theorem run_none {n : Nat} {s : Nat → Int} {k : Nat} (h : runP n s k = none) : ∀ d, runP n s (k + d) = none := by
  intro d
  induction d with
  | zero => exact h
  | succ d ih => rw [← Nat.add_assoc, runP, ih]; rfl
theorem run_len {n : Nat} {s : Nat → Int} : ∀ k P S, runP n s k = some (P, S) → P.length = n ∧ S.length ≤ k := by
  intro k
  induction k with
  | zero =>
    intro P S h
    simp only [runP, Option.some.injEq, Prod.mk.injEq] at h
    obtain ⟨rfl, rfl⟩ := h
    simp
  | succ k ih =>
    intro P S h
    rw [runP, Option.bind_eq_some_iff] at h
    obtain ⟨⟨P0, S0⟩, h0, h1⟩ := h
    have h2 := ih P0 S0 h0
    unfold stepP at h1
    split at h1
    · simp only [Option.some.injEq, Prod.mk.injEq] at h1
      obtain ⟨rfl, rfl⟩ := h1
      simp; omega
    · split at h1
      · split at h1
        · simp at h1
        · simp only [Option.some.injEq, Prod.mk.injEq] at h1
          obtain ⟨rfl, rfl⟩ := h1
          simp; omega
      · simp at h1
theorem not_reads {l : List UInt8} {k : Nat} (hk : k ≤ l.length) (h : runP l.length (byt l) k = none) : ¬ reads l := by
  rintro ⟨_, _, P, hP⟩
  have := run_none h (l.length - k)
  rw [show k + (l.length - k) = l.length from by omega, hP] at this
  cases this
theorem run_open {n : Nat} {s : Nat → Int} {k : Nat} {P S : List Int} (h : runP n s k = some (P, S)) (hs : s k = 40) : runP n s (k + 1) = some (P, S ++ [(k : Int)]) := by
  rw [runP, h]; simp [stepP, hs]
theorem run_shut {n : Nat} {s : Nat → Int} {k : Nat} {P A : List Int} {f : Int} (h : runP n s k = some (P, A ++ [f])) (hs : s k = 41) : runP n s (k + 1) = some ((P.set k f).set f.toNat k, A) := by
  rw [runP, h]; simp [stepP, hs]
theorem run_shut_none {n : Nat} {s : Nat → Int} {k : Nat} {P : List Int} (h : runP n s k = some (P, [])) (hs : s k = 41) : runP n s (k + 1) = none := by
  rw [runP, h]; simp [stepP, hs]
theorem run_other {n : Nat} {s : Nat → Int} {k : Nat} {P S : List Int} (h : runP n s k = some (P, S)) (h1 : s k ≠ 40) (h2 : s k ≠ 41) : runP n s (k + 1) = none := by
  rw [runP, h]; simp [stepP, h1, h2]
theorem readP_of {l : List UInt8} {P : List Int} (h : runP l.length (byt l) l.length = some (P, [])) : readP l = P := by unfold readP; rw [h]
theorem run_mem {n : Nat} {s : Nat → Int} {k : Nat} {P A : List Int} {f : Int} (hk : k ≤ n) (h : runP n s k = some (P, A ++ [f])) : ∃ g : Nat, f = g ∧ g < k := by
  have := (PInv.run k P _ hk h).mem f (by simp)
  exact ⟨f.toNat, by omega, by omega⟩
theorem OwnI.pop {w : World} {B q cap : Nat} {A : List Int} {f : Int} (h : OwnI w B (.slice (some ⟨q, 0, none⟩) (A.length + 1) cap) (A ++ [f])) : OwnI w B (.slice (some ⟨q, 0, none⟩) A.length cap) A := by
  unfold OwnI at h ⊢
  rw [List.length_append, List.map_append] at h
  exact ownsRow_pop (last := [Value.int .i64 f]) (by simp) h

set_option maxRecDepth 100000 in
set_option maxHeartbeats 3200000 in
theorem specParsePattern_any (l : List UInt8) (w : World) (hl : l.length ≤ 1048576) :
    Calls Try.prog 64 #[.string (bstr l)] w fun e w' => LRes (reads l) (readP l) w' w.heap.size e ∧ Below w.heap.size w w' := by
  obtain ⟨i0, hi, hz0, hz1, hz2⟩ := info_parts Try.info_int
  have hsz := bstr_size l
  by_cases h12 : l.length ≤ 12
  · go_enter Try.func64, Try.ntmps64
    go_wp2_with (at_make; refine wpList_make_full _ rfl _ _ 42 rfl w.heap.size 3 i0 (.int .i64 0) 1 Try.underlying42 hi hz0 hz1 _ _ _ _ l.length rfl rfl rfl rfl ?c1 ?c2 ?c3 ?_)
    case c1 => rw [hz2]; omega
    case c2 => unfold maxLen; omega
    case c3 => simp
    intro w1 hown hg
    have hb1 : Below w.heap.size w w1 := (Below.refl _ _).grown hg (Nat.le_refl _) (fun _ h => by cases h)
    have hown1 := OwnI.made hown
    have hlt1 : w.heap.size + 1 ≤ w1.heap.size := (hown1.lt w.heap.size rfl).2
    have Hown1 := Lib.hid hown1
    have Hb1 := Lib.hid hb1
    clear hown hg hown1 hb1
    go_wp2
    go_loopw [5, 6] (fun op i wr => ∃ (k : Nat) (P S : List Int), k ≤ l.length ∧ i = .int .i64 k ∧ runP l.length (byt l) k = some (P, S) ∧ OwnI wr w.heap.size (.slice (some ⟨w.heap.size, 0, none⟩) l.length l.length) P ∧
      OwnI wr (w.heap.size + 1) op S ∧ w.heap.size + 1 ≤ wr.heap.size ∧ Below w.heap.size w wr) (fun _ i _ => l.length - (intOf i).toNat)
    case atStart => exact ⟨0, _, [], Nat.zero_le _, rfl, rfl, Hown1.out, OwnI.nil _ _, hlt1, Hb1.out⟩
    case round =>
      obtain ⟨k, P, S, hk, rfl, hrun, hP, hS, hsz1, hbr⟩ := hrel
      have Hrun := Lib.hid hrun
      have HP := Lib.hid hP
      have Hbr := Lib.hid hbr
      have hPl := hP.len
      obtain ⟨oa, oc, rfl, hoc1, hoc2, _⟩ := hS.read
      have HS := Lib.hid hS
      have hSl := (run_len k P S hrun).2
      clear hrun hP hS hbr Hown1 Hb1 hlt1
      by_cases hlt : k < l.length
      · obtain ⟨b, hb⟩ : ∃ b, l[k]? = some b := ⟨_, List.getElem?_eq_getElem hlt⟩
        have hix := str_at hb
        have hbt := byt_at hb
        obtain ⟨x, hx⟩ : ∃ x : Int, x = (b.toNat : Int) := ⟨_, rfl⟩
        simp only [← hx] at hix
        rw [← hx] at hbt
        have hx0 : 0 ≤ x ∧ x ≤ 255 := by have := b.toNat_lt; omega
        have Hbt := Lib.hid hbt
        clear hb hx hbt
        by_cases h40 : x = 40
        · subst h40
          have H40 := Lib.hid (run_open Hrun.out Hbt.out)
          go_wp2_with (at_builtin; refine wpList_append_own _ rfl _ _ 42 rfl (w.heap.size + 1) 3 i0 (.int .i64 0) 1 8 Try.underlying42 hi hz0 hz1 hz2 rfl (by decide) _ _ _ rfl (World.ownsRow.alloc HS.out _) ⟨wr.heap.size, 0, none⟩ 1 1 [.int .i64 (k : Int)] rfl rfl ?c1 ?c2 ?c3 ?c4 ?c5 ?_)
          case c1 => exact cell_one_new _ _ _
          case c2 => intro u hu; simp at hu; subst hu; rfl
          case c3 => unfold maxLen; omega
          case c4 => omega
          case c5 => simp; omega
          intro v' w2 hown' hgrow _
          have hne : (Value.slice (some ⟨w.heap.size, 0, none⟩) l.length l.length).ownBlock ≠ (Value.slice oa S.length oc).ownBlock := by
            intro h
            have := (HS.out.lt w.heap.size h.symm).1
            omega
          obtain ⟨hS2, hb2⟩ := HS.out.snoc (by omega) hown' hgrow
          have hP2 : OwnI w2 w.heap.size (.slice (some ⟨w.heap.size, 0, none⟩) l.length l.length) P := World.ownsRow.kept (World.ownsRow.alloc HP.out _) hgrow (.inr hne)
          have HS2 := Lib.hid hS2
          have HP2 := Lib.hid hP2
          have Hb2 := Lib.hid (Hbr.out.trans (hb2.mono (Nat.le_succ _)))
          have hsz2 : w.heap.size + 1 ≤ w2.heap.size := by have := hb2.size; omega
          clear hown' hgrow hne hS2 hP2 hb2
          go_wp2
          go_roundw
          case rel => exact ⟨k + 1, _, _, by omega, by go_num, H40.out, HP2.out, HS2.out, hsz2, Hb2.out⟩
          case measure => simp [intOf]; omega
        · have hb40 : (x == 40) = false := by simp [h40]
          by_cases h41 : x = 41
          · subst h41
            by_cases hS0 : S = []
            · subst hS0
              have H41 := Lib.hid (run_shut_none Hrun.out Hbt.out)
              go_wp2
              go_ret2
              exact ⟨LRes.no (not_reads (by omega) H41.out), Hbr.out⟩
            · obtain ⟨A, f, rfl⟩ : ∃ A f, S = A ++ [f] := ⟨S.dropLast, S.getLast hS0, (List.dropLast_concat_getLast hS0).symm⟩
              obtain ⟨g, rfl, hgk⟩ := run_mem hk Hrun.out
              have H41 := Lib.hid (run_shut Hrun.out Hbt.out)
              have hAl : (A ++ [(g : Int)]).length = A.length + 1 := by simp
              have hS1 := HS.out
              rw [hAl] at hS1 hoc1 ⊢
              obtain ⟨q, rfl, hq1, _⟩ := hS1.isAt (by omega)
              have hcq := hS1.cellAt A.length (by omega)
              have hgi : gi (A ++ [(g : Int)]) A.length = (g : Int) := by rw [gi_lt (by simp)]; simp
              rw [hgi] at hcq
              have hd1 := HP.out.cellAt k hlt
              have hf1 := HP.out.frozenAt k
              have hP1 := HP.out.store k (g : Int)
              have hd2 := hP1.cellAt g (by omega)
              have hf2 := hP1.frozenAt g
              have hP2 := hP1.store g (k : Int)
              have hne : ∀ j : Nat, (Value.slice (some ⟨q, 0, none⟩) A.length oc).ownBlock ≠ some (⟨w.heap.size, j, none⟩ : Addr).block := by
                intro j h
                simp [Value.ownBlock] at h
                omega
              have hS2 := ((hS1.pop).setOther (hne k) (.int .i64 (g : Int))).setOther (hne g) (.int .i64 (k : Int))
              have HS2 := Lib.hid hS2
              have HP2 := Lib.hid hP2
              have Hb2 := Lib.hid ((Hbr.out.setCell (p := ⟨w.heap.size, k, none⟩) (Nat.le_refl _) (.int .i64 (g : Int))).setCell (p := ⟨w.heap.size, g, none⟩) (Nat.le_refl _) (.int .i64 (k : Int)))
              rw [Int.toNat_natCast] at H41
              have hAl2 : A.length ≤ 12 := by omega
              clear hS1 hgi hP1 hP2 hne hS2 hAl hS0 HS HP Hrun
              go_wp2
              go_roundw
              case rel => exact ⟨k + 1, _, _, by omega, by go_num, H41.out, HP2.out, HS2.out, by simpa using hsz1, Hb2.out⟩
              case measure => simp [intOf]; omega
          · have hb41 : (x == 41) = false := by simp [h41]
            have H41 := Lib.hid (run_other Hrun.out (by rw [Hbt.out]; exact h40) (by rw [Hbt.out]; exact h41))
            go_wp2
            go_ret2
            exact ⟨LRes.no (not_reads (by omega) H41.out), Hbr.out⟩
      · obtain rfl : k = l.length := by omega
        by_cases hS0 : S = []
        · subst hS0
          have hat := own_at HP.out
          have HA := Lib.hid hat
          clear hat
          go_wp2_with fail
          have hlo := loIsPattern_any (some ⟨w.heap.size, 0, none⟩) l.length P wr (by omega) (by first | exact HA.out | exact HA.out.below (Below.refl _ _))
          rw [hPl] at hlo
          refine hlo.mono ?_
          rintro e w3 ⟨ha, rfl⟩
          by_cases h2 : 2 ≤ l.length
          · have hp := run_pat h2 h12 Hrun.out
            obtain rfl := ha.is hp.1
            have Hy := Lib.hid (show reads l from ⟨h2, h12, _, Hrun.out⟩)
            clear ha hp hlo
            go_wp2
            go_ret2
            exact ⟨LRes.yes (v := .slice (some ⟨w.heap.size, 0, none⟩) l.length l.length) Hy.out (by rw [readP_of Hrun.out]; exact HP.out), Hbr.out⟩
          · obtain rfl := ha.isnt (fun h => by have := h.lo; omega)
            clear ha hlo
            go_wp2
            go_ret2
            exact ⟨LRes.no fun h => h2 h.1, Hbr.out⟩
        · have hpos : 0 < S.length := List.length_pos_iff.2 hS0
          go_wp2
          go_ret2
          refine ⟨LRes.no ?_, Hbr.out⟩
          rintro ⟨_, _, P', hP'⟩
          rw [Hrun.out] at hP'
          simp only [Option.some.injEq, Prod.mk.injEq] at hP'
          exact hS0 hP'.2
  · go_enter Try.func64, Try.ntmps64
    go_wp2
    go_ret2
    exact ⟨LRes.no fun h => h12 h.2.1, Below.refl _ _⟩
end Go.Proofs.Yteakdbmdokleoaa
