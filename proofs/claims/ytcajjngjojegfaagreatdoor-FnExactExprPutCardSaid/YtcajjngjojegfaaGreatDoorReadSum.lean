/- readSum: the program reads what the model reads. -/
import Derived.Test.YtcajjngjojegfaaGreatDoorNodes
namespace Go.Proofs.YtcajjngjojegfaaGreatDoor
open Go Go.RowKit Go.PlainAid
set_option linter.unusedSimpArgs false
set_option linter.unusedVariables false

theorem nodes_ok (t : Tree) : NodesOk t := by
  induction t with
  | num n => exact fun B v l w h1 h2 h3 => numNodes_any B n v l w h1 h2 (by omega)
  | name x => exact fun B v l w h1 h2 h3 => nameNodes_any B x v l w h1 h2 (by omega)
  | ahead k t ih =>
    intro B v l w h1 h2 h3
    have := aheadNodes_any B k t v l w h1 h2 (by simp [Tree.nodes] at h3; omega) ih
    rw [List.append_assoc] at this
    exact this
  | pair k l r ihl ihr =>
    intro B v l' w h1 h2 h3
    have := pairNodes_any B k l r v l' w h1 h2 (by simp [Tree.nodes] at h3; omega) ihl ihr
    rw [List.append_assoc, List.append_assoc, ← List.append_assoc l.nodes] at this
    exact this

/-! ### each node takes a byte -/
def LenC (rec : Int → Nat → Nat → CR) : Prop := ∀ lev a d t a', rec lev a d = some (t, a') → t.nodes.length + a ≤ a'
theorem len_single {s : ByteArray} {rec : Int → Nat → Nat → CR} (hr : LenC rec) {a d : Nat} {t : Tree} {a' : Nat} (h : singleC rec s a d = some (t, a')) : t.nodes.length + a ≤ a' := by
  unfold singleC at h
  split at h
  · cases h
  · rename_i hs
    split at h
    · split at h
      · cases h
      · split at h
        · cases h
        · rename_i t2 a2 hr2
          have h3 := hr _ _ _ _ _ hr2
          split at h
          · cases h; omega
          · cases h
    · split at h
      · rename_i hf
        unfold numberC at h
        split at h
        · cases h
        · cases h
          have := figEnd_step (show a < s.size by omega) hf
          have h2 := (figF_le s (s.size - (a + 1)) (a + 1)).1
          have e : figF s (s.size - (a + 1)) (a + 1) = figEnd s (a + 1) := rfl
          simp [Tree.nodes]; omega
      · split at h
        · rename_i hn
          cases h
          have h1 : 1 ≤ (s.extract a (wordTo s a)).size := by
            unfold nmB at hn
            rw [Bool.and_eq_true, decide_eq_true_eq] at hn
            exact hn.1.1
          rw [ByteArray.size_extract] at h1
          have h2 := Nat.min_le_left (wordTo s a) s.size
          simp [Tree.nodes]; omega
        · cases h
theorem len_ahead {s : ByteArray} {rec : Int → Nat → Nat → CR} (hr : LenC rec) (d n : Nat) : ∀ {a : Nat} {t : Tree} {a' : Nat}, aheadC rec s d n a = some (t, a') → t.nodes.length + a ≤ a' := by
  induction n with
  | zero => intro a t a' h; cases h
  | succ n ih =>
    intro a t a' h
    have h1 := skipTo_mono s a
    unfold aheadC at h
    split at h
    · split at h
      · cases h
      · rename_i t2 a2 h3
        cases h
        have := ih h3
        simp [Tree.nodes]; omega
    · split at h
      · split at h
        · cases h
        · rename_i t2 a2 h3
          cases h
          have := ih h3
          simp [Tree.nodes]; omega
      · have := len_single hr h
        omega
theorem len_loop {s : ByteArray} {rec : Int → Nat → Nat → CR} (hr : LenC rec) (least : Int) (d n : Nat) : ∀ {t : Tree} {a : Nat} {t' : Tree} {a' : Nat}, loopC rec s least d n t a = some (t', a') → t'.nodes.length + a ≤ t.nodes.length + a' := by
  induction n with
  | zero => intro t a t' a' h; cases h
  | succ n ih =>
    intro t a t' a' h
    have h1 := skipTo_mono s a
    unfold loopC at h
    split at h
    · cases h; omega
    · rename_i hk
      have hk0 : pairAt s (skipTo s a) ≠ 0 := fun e => hk (.inl e)
      have h2 := pair_lt hk0
      split at h
      · cases h
      · rename_i r a2 h3
        have h4 := hr _ _ _ _ _ h3
        have h5 := ih h
        simp [Tree.nodes] at h5
        omega
theorem len_climb (s : ByteArray) (f : Nat) : LenC (climbF s f) := by
  induction f with
  | zero => intro lev a d t a' h; cases h
  | succ f ih =>
    intro lev a d t a' h
    unfold climbF at h
    split at h
    · cases h
    · rename_i t2 a2 h2
      have h3 := len_ahead ih _ _ h2
      have h4 := len_loop ih _ _ _ h
      omega
theorem len_CC {s : ByteArray} {least : Int} {a d : Nat} {t : Tree} {a' : Nat} (h : CC s least a d = some (t, a')) : t.nodes.length + a ≤ a' := len_climb s _ _ _ _ _ _ h

theorem own_nil (w : World) (B : Nat) : OwnNd B w (.slice none 0 0) [] := ⟨rfl, .inl ⟨rfl, rfl⟩⟩

/-- what reading all of a text leaves -/
def ReadPost (w : World) (R : Option (List Nd)) (e : Ending) (w' : World) : Prop :=
  Below w.heap.size w w' ∧ match R with
    | none => e = .returned (.tuple #[.slice none 0 0, .bool false])
    | some l => ∃ v, e = .returned (.tuple #[v, .bool true]) ∧ OwnNd w.heap.size w' v l

set_option maxHeartbeats 800000 in
set_option maxRecDepth 100000 in
theorem readSum_any (s : ByteArray) (w : World) (hs : s.size ≤ maxLen) (hg : Signs w) :
    Calls Tryz.prog 47 #[.string s] w fun e w' => ReadPost w (getM s) e w' := by
  unfold maxLen at hs
  rw [← readC_getM]
  obtain ⟨R, hR⟩ : ∃ R, readC s = R := ⟨_, rfl⟩
  have HRR : Hid (readC s = R) := hR
  rw [hR]
  have HG : Hid (Signs w) := hg
  have h0 := hg.lt
  clear hR hg
  by_cases h60 : 60 < s.size
  · have hRn : R = none := by rw [← HRR.out]; unfold readC; rw [if_pos h60]
    subst hRn
    go_enter Tryz.func47, Tryz.ntmps47
    go_wp2_with fail
    go_ret2
    exact ⟨Below.refl _ _, rfl⟩
  have H1 : Hid (RdI (w.alloc (.cells #[.string s, .int .i64 0] 109)) w.heap.size s 0 0) := ⟨by rw [tl_zero]; simp, by simp, fun j => by simp⟩
  have B1 : Hid (Below w.heap.size w (w.alloc (.cells #[.string s, .int .i64 0] 109))) := (Below.refl _ _).alloc (Nat.le_refl _) _
  have G1 : Hid (Signs (w.alloc (.cells #[.string s, .int .i64 0] 109))) := HG.out.mv (p := w.heap.size) (by omega) (Mv.of_below B1.out)
  go_enter Tryz.func47, Tryz.ntmps47
  go_wp2_with fail
  refine (climb_rd s (by omega) (s.size + 1) w.heap.size 1 0 0 _ (by omega) (by omega) (by omega) (by omega) (by decide) (by decide) H1.out G1.out).mono ?_
  rintro e w2 ⟨hm2, hpost⟩
  have hsz2 : w.heap.size < w2.heap.size := by have := hm2.size; simp at this; omega
  have B2 : Hid (Below w.heap.size w w2) := B1.out.trans ⟨hm2.os, hm2.tape, hm2.output, hm2.size, fun g hg => hm2.block g (by simp; omega) (by omega)⟩
  clear hm2 H1 B1 G1
  cases hc : CC s 1 0 0 with
  | none =>
    rw [hc] at hpost
    obtain ⟨v, hv, rfl⟩ := hpost
    have hRn : R = none := by rw [← HRR.out]; unfold readC; rw [if_neg h60, hc]
    subst hRn
    rcases hv with rfl | ⟨tv, xv, rfl⟩
    · go_wp2_with fail
      go_ret2
      exact ⟨B2.out, rfl⟩
    · go_wp2_with fail
      go_ret2
      exact ⟨B2.out, rfl⟩
  | some q =>
    obtain ⟨t, a'⟩ := q
    rw [hc] at hpost
    obtain ⟨rfl, hr2⟩ := hpost
    have c2 := hr2.c0
    have hadv := (advCC s _ _ _ _ _ hc).2 (by omega)
    have hlen := len_CC hc
    have hRR : R = if a' < s.size then none else if 24 < t.nodes.length then none else some t.nodes := by rw [← HRR.out]; unfold readC; rw [if_neg h60, hc]
    have hsz := tl_size s a'
    clear hr2 hc HRR
    rw [partV_eq]
    by_cases hlt : a' < s.size
    · rw [if_pos hlt] at hRR
      subst hRR
      have hl : ¬ (tl s a').toList = [] := by
        intro h
        rw [Lib.toList_data] at h
        have : (tl s a').size = 0 := by
          show (tl s a').data.size = 0
          rw [← Array.length_toList, h]; rfl
        omega
      have he : (tl s a').toList.isEmpty = false := by simpa using hl
      generalize tl s a' = x at *
      go_wp2_with fail
      go_ret2
      exact ⟨B2.out, rfl⟩
    rw [if_neg hlt] at hRR
    have ht0 : tl s a' = ⟨#[]⟩ := empty_of (by omega)
    rw [ht0] at c2
    have HN : Hid (Calls Tryz.prog (nodesFn t) #[partX t, .slice none 0 0] w2 fun e w' => ∃ v', e = .returned v' ∧ OwnNd w.heap.size w' v' ([] ++ t.nodes) ∧ Gr (.slice none 0 0) w2 w' v') := nodes_ok t w.heap.size _ [] w2 (by omega) (own_nil _ _) (by simp; omega)
    have HCM : Hid (∀ u, (callMethod (.iface (partT t) (partX t)) "loop.example/telltale/impl.nodes" #[.slice none 0 0]).run Tryz.prog u = .ok (.enter (nodesFn t) #[partX t, .slice none 0 0]) u) := nodes_method t (.slice none 0 0)
    generalize partX t = px at *
    generalize partT t = pt at *
    generalize nodesFn t = fn at *
    clear ht0 hsz
    go_wp2_with (refine wpList_invoke rfl (.tmp 24) (.const (.slice none 0 0)) _ _ rfl pt px (.slice none 0 0) fn rfl rfl (HCM.out _) HN.out ?_)
    intro e w3 v3 he hown3 hgr3
    subst he
    refine ⟨v3, rfl, ?_⟩
    have B3 : Hid (Below w.heap.size w w3) := B2.out.trans (hgr3.below (by omega) (fun k hk => by cases hk))
    have HO3 : Hid (OwnNd w.heap.size w3 v3 t.nodes) := hown3
    obtain ⟨a3, c3, rfl, hcap3⟩ := hown3.form
    clear hown3 hgr3 HN HCM
    generalize t.nodes = l at *
    by_cases h24 : 24 < l.length
    · rw [if_pos h24] at hRR
      subst hRR
      generalize l.length = n at *
      go_wp2_with fail
      go_ret2
      exact ⟨B3.out, rfl⟩
    · rw [if_neg h24] at hRR
      subst hRR
      obtain ⟨n, hn⟩ : ∃ n, l.length = n := ⟨_, rfl⟩
      rw [hn] at h24 hcap3 HO3 ⊢
      clear hn hlen
      go_wp2_with fail
      go_ret2
      exact ⟨B3.out, _, rfl, HO3.out⟩
end Go.Proofs.YtcajjngjojegfaaGreatDoor
