/- What the program reads when it reads; strconv.Atoi and strings.Split as it uses them. -/
import Derived.Test.YtjmgfpldjccilaaGreatDoorEvTab
import Derived.Shelf.Vars
namespace Go.Proofs.YtjmgfpldjccilaaGreatDoor
open Go Go.RowKit Go.PlainAid
set_option linter.unusedSimpArgs false
set_option linter.unusedVariables false

/-- what the program reads when it reads -/
structure TbG (w : World) : Prop where
  put : TbP w
  maxlen : ∃ m, w.cell? ⟨2, 0, none⟩ = some (.int .i64 m)
  syn : ∃ ev, w.cell? ⟨5, 0, none⟩ = some ev ∧ (ev = .nilIface ∨ ∃ te pe, ev = .iface te pe)
  rng : ∃ ev, w.cell? ⟨6, 0, none⟩ = some ev ∧ (ev = .nilIface ∨ ∃ te pe, ev = .iface te pe)
theorem TbG.up {w w' : World} (h : TbG w) (hb : Below w.heap.size w w') : TbG w' := by
  obtain ⟨h1, ⟨m, h2⟩, ⟨e1, h3, h4⟩, ⟨e2, h5, h6⟩⟩ := h
  exact ⟨h1.up hb, ⟨m, (hb.cell (World.block_lt_of_cell? w _ h2)).trans h2⟩, ⟨e1, (hb.cell (World.block_lt_of_cell? w _ h3)).trans h3, h4⟩, ⟨e2, (hb.cell (World.block_lt_of_cell? w _ h5)).trans h5, h6⟩⟩

set_option maxHeartbeats 800000 in
set_option maxRecDepth 100000 in
theorem numberOf_any (s : ByteArray) (w : World) (hT : TbG w) (hs : s.size ≤ 1048576) :
    Calls Tryz.prog 72 #[.string s] w fun e w' => ∃ v, e = .returned (.int .i64 v) ∧ (∀ n : Int, -10000000000 < n → n < 10000000000 → s = bt8 (Lib.itoa n) → v = n) ∧ Below w.heap.size w w' := by
  have key : ∀ n : Int, -10000000000 < n → n < 10000000000 → s = bt8 (Lib.itoa n) → Lib.atoiAll s.data.toList = .ok n := fun n h0 h1 e => by
    rw [e, bt8_list]
    exact atoi_itoa (by omega) (by omega)
  cases hA : Lib.atoiAll s.data.toList with
  | ok v =>
    have HV : Hid (∀ n : Int, -10000000000 < n → n < 10000000000 → s = bt8 (Lib.itoa n) → v = n) := fun n h0 h1 e => by
      have := key n h0 h1 e
      rw [hA] at this
      injection this
    have HC : Hid (Calls Tryz.prog 85 #[.string s] w fun e w' => e = .returned (.tuple #[.int .i64 v, .nilIface]) ∧ Below w.heap.size w w') :=
      (Tryz.strconv_Atoi_ok s (by omega) v hA w).mono fun e w' ⟨h1, h2⟩ => ⟨h1, by
        rcases h2 with rfl | ⟨t, rfl⟩
        · exact Below.refl _ _
        · exact Lib.bytesWorld_below _ _ _⟩
    clear hA key hT
    go_enter Tryz.func72, Tryz.ntmps72
    go_wp2_with fail
    refine HC.out.mono ?_
    rintro e w1 ⟨rfl, hb⟩
    have HB := hidOf hb
    clear hb
    go_wp2_with fail
    go_ret
    exact ⟨v, rfl, HV.out, HB.out⟩
  | «syntax» =>
    have HV : Hid (∀ n : Int, -10000000000 < n → n < 10000000000 → s = bt8 (Lib.itoa n) → (0 : Int) = n) := fun n h0 h1 e => by
      have := key n h0 h1 e
      rw [hA] at this
      cases this
    obtain ⟨ev, h3, h4⟩ := hT.syn
    have HC : Hid (Calls Tryz.prog 85 #[.string s] w fun e w' => ∃ (z : Int) (te : TypeId) (pe : Value), e = .returned (.tuple #[.int .i64 z, .iface te pe]) ∧ Below w.heap.size w w') :=
      (Tryz.strconv_Atoi_syntax s (by omega) hA ev w h3 h4).mono fun e w' ⟨N, h1, _, _, h2⟩ => ⟨_, _, _, h1, h2⟩
    clear hA key hT h3 h4
    go_enter Tryz.func72, Tryz.ntmps72
    go_wp2_with fail
    refine HC.out.mono ?_
    rintro e w1 ⟨z, te, pe, rfl, hb⟩
    have HB := hidOf hb
    clear hb
    go_wp2_with fail
    go_ret
    exact ⟨0, rfl, HV.out, HB.out⟩
  | range =>
    have HV : Hid (∀ n : Int, -10000000000 < n → n < 10000000000 → s = bt8 (Lib.itoa n) → (0 : Int) = n) := fun n h0 h1 e => by
      have := key n h0 h1 e
      rw [hA] at this
      cases this
    obtain ⟨ev, h3, h4⟩ := hT.rng
    have HC : Hid (Calls Tryz.prog 85 #[.string s] w fun e w' => ∃ (z : Int) (te : TypeId) (pe : Value), e = .returned (.tuple #[.int .i64 z, .iface te pe]) ∧ Below w.heap.size w w') :=
      (Tryz.strconv_Atoi_range s (by omega) hA ev w h3 h4).mono fun e w' ⟨N, h1, _, _, h2⟩ => ⟨_, _, _, h1, h2⟩
    clear hA key hT h3 h4
    go_enter Tryz.func72, Tryz.ntmps72
    go_wp2_with fail
    refine HC.out.mono ?_
    rintro e w1 ⟨z, te, pe, rfl, hb⟩
    have HB := hidOf hb
    clear hb
    go_wp2_with fail
    go_ret
    exact ⟨0, rfl, HV.out, HB.out⟩

/-- the pieces of a text between a byte, as texts -/
def splS (c : UInt8) (s : ByteArray) : List ByteArray := (spl c s.data.toList).map bt8
theorem splS_len (c : UInt8) (s : ByteArray) : 1 ≤ (splS c s).length ∧ (splS c s).length ≤ s.size + 1 := by
  have h : ∀ (k : Nat) (l : List UInt8), 1 ≤ (Lib.splitK [c] 0 k l).length ∧ (Lib.splitK [c] 0 k l).length ≤ k + 1 := by
    intro k
    induction k with
    | zero => intro l; exact ⟨Nat.le_refl _, Nat.le_refl _⟩
    | succ k ih =>
      intro l
      have e : Lib.splitK [c] 0 (k + 1) l = if Lib.index l [c] == -1 then [l] else l.take ((Lib.index l [c]).toNat + 0) :: Lib.splitK [c] 0 k (l.drop ((Lib.index l [c]).toNat + [c].length)) := rfl
      rw [e]
      split
      · simp
      · have := ih (l.drop ((Lib.index l [c]).toNat + [c].length))
        exact ⟨Nat.succ_le_succ (Nat.zero_le _), Nat.succ_le_succ this.2⟩
  have hc : Lib.count s.data.toList [c] ≤ s.size := by
    rw [Lib.count_one]
    exact Nat.le_trans List.count_le_length (Nat.le_of_eq (Lib.size_eq s).symm)
  unfold splS spl
  rw [List.length_map]
  have := h (Lib.count s.data.toList [c]) s.data.toList
  omega
theorem splitB_spl (c : UInt8) (s : ByteArray) : Lib.splitB ⟨#[c]⟩ 0 (Lib.countB s ⟨#[c]⟩) s = splS c s := by
  have h1 := Lib.splitB_data ⟨#[c]⟩ 0 (Lib.countB s ⟨#[c]⟩) s
  have h2 : Lib.countB s ⟨#[c]⟩ = Lib.count s.data.toList [c] := by first | rfl | simp [Lib.countB_eq]
  rw [h2] at h1 ⊢
  unfold splS spl
  rw [show [c] = (⟨#[c]⟩ : ByteArray).data.toList from rfl, ← h1, List.map_map]
  conv => lhs; rw [← List.map_id (Lib.splitB _ _ _ _)]
  exact List.map_congr_left fun x _ => (bt8_of x).symm
theorem split_any (s : ByteArray) (c : UInt8) (w : World) (hT : TbG w) (hs : s.size ≤ 1048576) :
    Calls Tryz.prog 48 #[.string s, .string ⟨#[c]⟩] w fun e w' => ∃ b n, e = .returned (.slice (some ⟨b, 0, none⟩) n n) ∧ IsStrs w'.heap.size w' (some ⟨b, 0, none⟩) n (splS c s) ∧ Below w.heap.size w w' := by
  obtain ⟨m, hm⟩ := hT.maxlen
  refine (Tryz.strings_Split s ⟨#[c]⟩ m w (by omega) hm (Nat.le_refl _)).mono ?_
  rintro e w' ⟨rfl, rfl⟩
  rw [splitB_spl]
  have hl : (splS c s).length = Lib.countB s ⟨#[c]⟩ + 1 := by
    rw [← splitB_spl]
    exact Lib.splitB_all ⟨#[c]⟩ (Nat.le_refl _) 0 _ s rfl
  refine ⟨_, _, rfl, ⟨hl, .inr ⟨_, 0, rfl, by simp, fun i hi => ?_⟩⟩, (Below.refl _ _).alloc (Nat.le_refl _) _⟩
  simp [go_sem, hi]
end Go.Proofs.YtjmgfpldjccilaaGreatDoor
