/- The reader's unary: signs ahead. -/
import Derived.Test.YtcajjngjojegfaaGreatDoorParPrim
import Derived.Lib.Strings
namespace Go.Proofs.YtcajjngjojegfaaGreatDoor
open Go.RowKit Go.PlainAid
set_option linter.unusedSimpArgs false
set_option linter.unusedVariables false

theorem infoInt' : (Tryz.prog.info? 3).map (fun i => (i.zero, i.size, i.bytes)) = some (some (.int .i64 0), 1, 8) := by kernel_rfl

theorem own_of_block {w w' : World} {B : Nat} {e : TypeId} {size : Nat} {v : Value} {n : Nat} {xs : List Value} (h : w.ownsRow B e size v n xs) (hb : ∀ g, v.ownBlock = some g → w'.heap[g]? = w.heap[g]?) : w'.ownsRow B e size v n xs := by
  obtain ⟨h1, h2⟩ := h
  refine ⟨h1, ?_⟩
  rcases h2 with h2 | ⟨g, cap, cur, hv, h3, h4, h5⟩
  · exact .inl h2
  · exact .inr ⟨g, cap, cur, hv, h3, by rw [hb g (by rw [hv]; rfl)]; exact h4, h5⟩
theorem ParAt.of_block {p : Nat} {w w' : World} {s : ByteArray} {st : Par} {v : Value} (h : ParAt p w s st v) (hp : w'.heap[p]? = w.heap[p]?) (hv : ∀ g, v.ownBlock = some g → w'.heap[g]? = w.heap[g]?) : ParAt p w' s st v := by
  have hc : ∀ j, w'.cell? ⟨p, j, none⟩ = w.cell? ⟨p, j, none⟩ := fun j => World.cell?_of_block hp
  have hf : ∀ j, w'.frozen? ⟨p, j, none⟩ = w.frozen? ⟨p, j, none⟩ := fun j => World.frozen?_of_block hp
  exact ⟨(hc 0).trans h.c0, (hc 1).trans h.c1, (hc 2).trans h.c2, (hc 3).trans h.c3, (hc 4).trans h.c4, fun j => (hf j).trans (h.open_ j), own_of_block h.own hv⟩

theorem hasAt_one {s : ByteArray} {k : Nat} (c : UInt8) (hc : c ≠ 0) : hasAt s k ⟨#[c]⟩ = (bt s k == (c.toNat : Int)) := by
  unfold hasAt
  have e : (⟨#[c]⟩ : ByteArray).size = 1 := rfl
  rw [e]
  by_cases h : k + 1 ≤ s.size
  · have hk : k < s.data.toList.length := by simp; omega
    have h1 : (s.extract k (k + 1)).toList = [s[k]] := by
      rw [Lib.extract_toList, show k + 1 - k = 1 from by omega, List.drop_eq_getElem_cons hk]
      rfl
    rw [decide_eq_true h, h1, ← get_bt s k (by omega), Lib.toList_data]
    simp only [Bool.true_and]
    rw [Bool.eq_iff_iff]
    simp
    exact ⟨fun h => by rw [h], fun h => UInt8.toNat_inj.1 (by omega)⟩
  · have hc0 : c.toNat ≠ 0 := fun h => hc (UInt8.toNat_inj.1 h)
    rw [decide_eq_false h, bt_end s (by omega)]
    simp only [Bool.false_and]
    symm
    simp
    omega

theorem aheadF_eq (s : ByteArray) (f : Nat) : ∀ g a, s.size - a + 1 ≤ f → s.size - a + 1 ≤ g → a ≤ s.size → aheadF s f a = aheadF s g a := by
  induction f with
  | zero => intro g a h; omega
  | succ f ih =>
    intro g a hf hg ha
    obtain ⟨g, rfl⟩ : ∃ g', g = g' + 1 := ⟨g - 1, by omega⟩
    have h1 := skipTo_mono s a
    unfold aheadF
    split
    · rename_i hb
      have h2 := bt_lt hb (by decide)
      rw [ih g _ (by omega) (by omega) (by omega)]
    · split
      · rename_i hb
        have h2 := bt_lt hb (by decide)
        rw [ih g _ (by omega) (by omega) (by omega)]
      · rfl
def ints (l : List Int) : List Value := l.map (Value.int .i64)
theorem aheadTo_minus {s : ByteArray} {a : Nat} (ha : a ≤ s.size) (h : bt s (skipTo s a) = 45) : aheadTo s a = (3 :: (aheadTo s (skipTo s a + 1)).1, (aheadTo s (skipTo s a + 1)).2) := by
  have h1 := skipTo_mono s a
  have h2 := bt_lt h (by decide)
  have key : ∀ f g, s.size - (skipTo s a + 1) + 1 ≤ f → s.size - (skipTo s a + 1) + 1 ≤ g → aheadF s f (skipTo s a + 1) = aheadF s g (skipTo s a + 1) := by
    intro f g hf hg
    exact aheadF_eq s f g _ hf hg (by omega)
  unfold aheadTo
  rw [aheadF, if_pos h, key (s.size - a) (s.size - (skipTo s a + 1) + 1) (by omega) (Nat.le_refl _)]
theorem aheadTo_bang {s : ByteArray} {a : Nat} (ha : a ≤ s.size) (h : bt s (skipTo s a) = 33) : aheadTo s a = (4 :: (aheadTo s (skipTo s a + 1)).1, (aheadTo s (skipTo s a + 1)).2) := by
  have h1 := skipTo_mono s a
  have h2 := bt_lt h (by decide)
  have key : ∀ f g, s.size - (skipTo s a + 1) + 1 ≤ f → s.size - (skipTo s a + 1) + 1 ≤ g → aheadF s f (skipTo s a + 1) = aheadF s g (skipTo s a + 1) := by
    intro f g hf hg
    exact aheadF_eq s f g _ hf hg (by omega)
  unfold aheadTo
  rw [aheadF, if_neg (by omega), if_pos h, key (s.size - a) (s.size - (skipTo s a + 1) + 1) (by omega) (Nat.le_refl _)]
theorem aheadTo_none {s : ByteArray} {a : Nat} (h1 : bt s (skipTo s a) ≠ 45) (h2 : bt s (skipTo s a) ≠ 33) : aheadTo s a = ([], skipTo s a) := by
  unfold aheadTo
  rw [aheadF, if_neg h1, if_neg h2]
end Go.Proofs.YtcajjngjojegfaaGreatDoor
