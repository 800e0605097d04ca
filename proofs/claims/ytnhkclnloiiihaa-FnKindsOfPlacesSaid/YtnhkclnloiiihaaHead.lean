/- The translation's head begins with the sum of its harness and the word for a cut: what the closed facts of the rows ask of it, without running through the whole head. No conditions. -/
import Derived.Test.YtnhkclnloiiihaaRows
import Derived.JoinedOf
import Derived.KernelRfl
namespace Go.Proofs.Ytnhkclnloiiihaa

theorem ws_blank (r : List Char) : wordsSigns (Char.ofNat 32 :: r) = [] :: wordsSigns r := by
  show wordsSigns (_ :: r) = _
  simp [wordsSigns]

theorem ws_cons (c : Char) (r : List Char) (h : c ≠ Char.ofNat 32) {w : List Char} {ws : List (List Char)} (hr : wordsSigns r = w :: ws) : wordsSigns (c :: r) = (c :: w) :: ws := by
  rw [wordsSigns.eq_3 _ _ (fun e => h (by simpa using e)), hr]

theorem ws_word (s r : List Char) (h : ∀ c ∈ s, c ≠ Char.ofNat 32) : wordsSigns (s ++ Char.ofNat 32 :: r) = s :: wordsSigns r := by
  induction s with
  | nil => exact ws_blank r
  | cons c s ih => exact ws_cons c _ (h c (by simp)) (ih (fun d hd => h d (by simp [hd])))

def headOk (l : List Char) : Bool :=
  l.take 8 == "harness ".toList && isSumSigns ((l.drop 8).take 64) && ((l.drop 8).drop 64).take 5 == " cut ".toList

theorem sum_plain {s : List Char} (h : isSumSigns s = true) : ∀ c ∈ s, c ≠ Char.ofNat 32 := by
  intro c hc e
  subst e
  unfold isSumSigns at h
  simp only [Bool.and_eq_true, List.all_eq_true] at h
  exact absurd (h.2 _ hc) (by decide)

theorem head_words {l : List Char} (h : headOk l = true) : ∃ rest, behindMainWord (wordsSigns l) = "cut".toList :: rest := by
  unfold headOk at h
  simp only [Bool.and_eq_true, beq_iff_eq] at h
  obtain ⟨⟨h1, h2⟩, h3⟩ := h
  have e : l = "harness".toList ++ Char.ofNat 32 :: ((l.drop 8).take 64 ++ Char.ofNat 32 :: ("cut".toList ++ Char.ofNat 32 :: (((l.drop 8).drop 64).drop 5))) := by
    conv => lhs; rw [← List.take_append_drop 8 l, h1, ← List.take_append_drop 64 (l.drop 8), ← List.take_append_drop 5 ((l.drop 8).drop 64), h3]
    rfl
  generalize ((l.drop 8).drop 64).drop 5 = t at e
  generalize hs : (l.drop 8).take 64 = s at e h2
  rw [e, ws_word _ _ (by decide), ws_word _ _ (sum_plain h2), ws_word _ _ (by decide)]
  refine ⟨wordsSigns t, ?_⟩
  show (if ((("harness".toList == "harness".toList) || ("harness".toList == "ownmain".toList)) && isSumSigns s) = true then _ else _) = _
  rw [if_pos (by rw [h2]; decide)]

set_option maxRecDepth 100000 in
theorem head_list : ∃ l, Try.prog.initOrder = String.ofList l ∧ headOk l = true := ⟨_, rfl, by kernel_rfl⟩
theorem head_is : ∃ rest, behindMainWord (wordsSigns Try.prog.initOrder.toList) = "cut".toList :: rest := by
  obtain ⟨l, h1, h2⟩ := head_list
  rw [h1, String.toList_ofList]
  exact head_words h2

theorem lays_not : Try.prog.laysLater = false := by kernel_rfl
theorem reflect_not : Try.prog.bearsReflect = false := by kernel_rfl
theorem door_fits : Try.prog.doorFits [] = true := by kernel_rfl
theorem strip_cut (rest : List (List Char)) : stripLifts liftWords ("cut".toList :: rest) = ([], "cut".toList :: rest) := by kernel_rfl

section
variable {P : Program} {rest : List (List Char)} (h : behindMainWord (wordsSigns P.initOrder.toList) = "cut".toList :: rest)
include h
theorem enter_of (h1 : P.laysLater = false) (h2 : P.bearsReflect = false) (h3 : P.doorFits [] = true) : P.mayEnter = true := by
  unfold Program.mayEnter
  rw [h]
  simp only [strip_cut, h1, h2, h3]
  simp
theorem lifts_of : P.headLifts = [] := by
  unfold Program.headLifts
  rw [h]
  simp only [strip_cut]
  simp
theorem final_of : P.liftsFinal = false := by
  unfold Program.liftsFinal
  rw [lifts_of h, h]
  simp
theorem make_of : P.make = some .cut := by
  unfold Program.make
  rw [h]
  simp
end

theorem may_enter : Try.prog.mayEnter = true := head_is.elim fun _ h => enter_of h lays_not reflect_not door_fits
theorem no_lifts : Try.prog.headLifts = [] := head_is.elim fun _ h => lifts_of h
theorem no_final : Try.prog.liftsFinal = false := head_is.elim fun _ h => final_of h
theorem made_cut : Try.prog.make = some .cut := head_is.elim fun _ h => make_of h

theorem and_i {a b : Bool} (ha : a = true) (hb : b = true) : (a && b) = true := by rw [ha, hb]; rfl
theorem lifted_ok {b : Bool} (h : b = false) : (b == Try.prog.liftsFinal) = true := by rw [no_final, h]; rfl
theorem make_ok {m : Make} (h : m = .cut) : (Try.prog.make == some m) = true := by rw [made_cut, h]; simp
end Go.Proofs.Ytnhkclnloiiihaa
