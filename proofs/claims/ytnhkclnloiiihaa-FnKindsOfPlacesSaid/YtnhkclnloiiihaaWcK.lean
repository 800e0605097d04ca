/- Contracts: the counts of kinds as a slice of an array, by the program; what the laws' helpers do with it. Conditions: as each says. -/
import Derived.Test.YtnhkclnloiiihaaWcI
import Derived.Test.YtnhkclnloiiihaaLawB
namespace Go.Proofs.Ytnhkclnloiiihaa
open Go.RowKit

/-- six numbers in an array that the call owns from block B on, as a slice; or none -/
def OwnK (w : World) (B : Nat) (v : Value) (xs : List Int) : Prop :=
  (v = .slice none 0 0 ∧ xs = []) ∨ (∃ g, v = .slice (some ⟨g, 0, none⟩) 6 6 ∧ xs.length = 6 ∧ B ≤ g ∧ KcAt w g (gi xs))
theorem OwnK.below {w w' : World} {B : Nat} {v : Value} {xs : List Int} (h : OwnK w B v xs) (hb : Below w.heap.size w w') : OwnK w' B v xs := by
  rcases h with h | ⟨g, h1, h2, h3, h4⟩
  · exact .inl h
  · exact .inr ⟨g, h1, h2, h3, h4.below hb⟩
theorem OwnK.lt {w : World} {B : Nat} {v : Value} {xs : List Int} (h : OwnK w B v xs) : ∀ k, v.ownBlock = some k → B ≤ k ∧ k < w.heap.size := by
  intro k hk
  rcases h with ⟨rfl, _⟩ | ⟨g, rfl, _, h3, h4⟩
  · simp [Value.ownBlock] at hk
  · simp only [Value.ownBlock, Option.some.injEq] at hk
    subst hk
    exact ⟨h3, h4.lt⟩
theorem kc_ints {w : World} {g : Nat} {xs : List Int} (h : KcAt w g (gi xs)) (hl : xs.length = 6) : IntsAt w (some ⟨g, 0, none⟩) xs := fun i hi => ⟨g, 0, rfl, by rw [Nat.zero_add]; exact h.cell (by omega)⟩
theorem OwnK.read {w : World} {B : Nat} {v : Value} {xs : List Int} (h : OwnK w B v xs) : ∃ ao c, v = .slice ao xs.length c ∧ xs.length ≤ c ∧ c ≤ 9223372036854775807 ∧ IntsAt w ao xs := by
  rcases h with ⟨rfl, rfl⟩ | ⟨g, rfl, h2, h3, h4⟩
  · exact ⟨none, 0, rfl, by simp, by omega, IntsAt.nil _ _⟩
  · exact ⟨some ⟨g, 0, none⟩, 6, by rw [h2], by omega, by omega, kc_ints h4 h2⟩
theorem ownK_at {w : World} {B n c : Nat} {ao : Option Addr} {xs : List Int} (h : OwnK w B (.slice ao n c) xs) : IntsAt w ao xs := by
  obtain ⟨ao', c', hv, _, _, hx⟩ := h.read
  simp only [Value.slice.injEq] at hv
  obtain ⟨rfl, _⟩ := hv
  exact hx
theorem OwnK.only {w w' : World} {S : Nat → Prop} {B : Nat} {v : Value} {xs : List Int} (h : OwnK w B v xs) (ho : OnlyW S w w') (hS : ∀ g, v.ownBlock = some g → ¬ S g) : OwnK w' B v xs := by
  rcases h with h | ⟨g, rfl, h2, h3, h4⟩
  · exact .inl h
  · refine .inr ⟨g, rfl, h2, h3, ?_⟩
    unfold KcAt at h4 ⊢
    rw [ho.block g (hS g rfl)]
    exact h4
def KRes (p : Prop) (r : List Int) (w : World) (B : Nat) (e : Ending) : Prop :=
  ∃ v b r', e = .returned (.tuple #[v, .bool b]) ∧ OwnK w B v r' ∧ ((p ∧ b = true ∧ r' = r) ∨ (¬p ∧ b = false ∧ r' = []))
theorem KRes.yes {p : Prop} {r : List Int} {w : World} {B : Nat} {v : Value} (h : p) (ho : OwnK w B v r) : KRes p r w B (.returned (.tuple #[v, .bool true])) := ⟨v, true, r, rfl, ho, .inl ⟨h, rfl, rfl⟩⟩
theorem KRes.no {p : Prop} {r : List Int} {w : World} {B : Nat} (h : ¬p) : KRes p r w B (.returned (.tuple #[.slice none 0 0, .bool false])) := ⟨_, false, [], rfl, .inl ⟨rfl, rfl⟩, .inr ⟨h, rfl, rfl⟩⟩

theorem marks6 (q : Int) : ∀ j : Nat, j < 6 → q + (j : Int) = gi (marks q 6) j := fun _ hj => (gi_marks hj).symm
set_option maxRecDepth 100000 in
set_option maxHeartbeats 1600000 in
theorem implKindCounts_any (ao : Option Addr) (c : Nat) (m : List (List Int)) (w : World) (hs : Small m) (hwf : WfM m) (hm : MatAt w ao m) :
    Calls Try.prog 70 #[.slice ao m.length c] w fun e w' => KRes (good m) (cntL (cntK m)) w' w.heap.size e ∧ Below w.heap.size w w' := by
  have Hs := Lib.hid hs
  have Hm := Lib.hid hm
  have Hwf := Lib.hid hwf
  clear hs hm hwf
  go_enter Try.func70, Try.ntmps70
  go_wp2_with fail
  refine (implIsSign_any ao c m w Hs.out Hwf.out Hm.out).mono ?_
  rintro e w1 ⟨ha, hb⟩
  have Hb := Lib.hid hb
  have HB := Lib.hid hb.size
  clear hb
  by_cases hg : good m
  · have Hg := Lib.hid hg
    clear hg
    obtain rfl := ha.is Hg.out
    clear ha
    go_wp2_with fail
    refine (countsOfKinds_any ao c m w1 Hg.out (Hm.out.below Hb.out)).mono ?_
    rintro e w2 ⟨rfl, hb2⟩
    have Hb2 := Lib.hid (Hb.out.trans (hb2.mono HB.out))
    have HB2 := Lib.hid (Hb2.out.size)
    clear hb2
    go_wp2_with (first | (refine wpList_allocT rfl 96 rfl _ _ Try.info_kc ?_) | (refine wpList_storeT rfl 96 _ _ rfl _ (kc fun _ => 0) _ rfl rfl rfl (Try.size_kc _) (kc_same _ _) (kc_one _) ?_))
    have hk : OwnK (w2.alloc (.cells (kc fun q => cntK m q) 96)) w.heap.size (.slice (some ⟨w2.heap.size, 0, none⟩) 6 6) (cntL (cntK m)) := .inr ⟨_, rfl, rfl, HB2.out, (KcAt.new w2 _).congr (fun k hk => (cntL_gi (cntK m) hk).symm)⟩
    have Hk := Lib.hid hk
    have Hb3 := Lib.hid (Hb2.out.alloc HB2.out (.cells (kc fun q => cntK m q) 96))
    clear hk
    go_ret2
    exact ⟨KRes.yes Hg.out Hk.out, Hb3.out⟩
  · have Hg := Lib.hid hg
    clear hg
    obtain rfl := ha.isnt Hg.out
    clear ha
    go_wp2
    go_ret2
    exact ⟨KRes.no Hg.out, Hb.out⟩
end Go.Proofs.Ytnhkclnloiiihaa
