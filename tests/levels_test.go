package tests

import (
	"math"
	"slices"
	"strings"
	"testing"

	"loop.example/macroprocessor/impl"
)

// beginKinds are the kinds that begin a level.
var beginKinds = []int{impl.KindIf, impl.KindIfdef, impl.KindIfndef}

// idleKinds are the kinds that change no levels.
var idleKinds = []int{impl.KindDefine, impl.KindUndef, impl.KindInclude, impl.KindError}

// noKinds are numbers that are no kinds of directives.
var noKinds = []int{impl.KindNone, -1, -2, -3, -5, -7, -8, 11, 12, 15, 100, 256, 1<<8 + impl.KindIf, 1<<16 + impl.KindElse, 1<<32 + impl.KindEndif, math.MinInt, math.MinInt + impl.KindIf, math.MaxInt, math.MinInt32, math.MaxInt32}

// levelsOf returns the levels of words: of each, t is Taken, d is Done, e is Other, and the point is none of these.
func levelsOf(words string) []impl.Level {
	var list []impl.Level
	for _, word := range strings.Fields(words) {
		list = append(list, impl.Level{Taken: strings.Contains(word, "t"), Done: strings.Contains(word, "d"), Other: strings.Contains(word, "e")})
	}
	return list
}

// levelWords are all eight levels.
var levelWords = []string{".", "t", "d", "td", "e", "te", "de", "tde"}

// wordsOf returns the words of levels.
func wordsOf(list []impl.Level) string {
	var words []string
	for _, level := range list {
		words = append(words, levelWords[stateOf(level)])
	}
	return strings.Join(words, " ")
}

// stateOf returns the number of a level among all eight.
func stateOf(level impl.Level) int {
	return oneOf(level.Taken) + 2*oneOf(level.Done) + 4*oneOf(level.Other)
}

// manyLevels returns a level of a word as often as told.
func manyLevels(word string, count int) []impl.Level {
	return levelsOf(strings.Repeat(word+" ", count))
}

// wantActive checks LevelsActive.
func wantActive(t *testing.T, list []impl.Level, want bool) {
	t.Helper()
	if got := impl.LevelsActive(list); got != want {
		t.Errorf("LevelsActive(%s) = %v, want %v", wordsOf(list), got, want)
	}
}

// wantStep checks LevelStep of levels that have a next step, and returns these.
func wantStep(t *testing.T, list []impl.Level, kind int, holds bool, want []impl.Level) []impl.Level {
	t.Helper()
	got, ok := impl.LevelStep(list, kind, holds)
	if !ok || !slices.Equal(got, want) {
		t.Errorf("LevelStep(%s, %d, %v) = %s, %v, want %s, true", wordsOf(list), kind, holds, wordsOf(got), ok, wordsOf(want))
	}
	return got
}

// wantNoStep checks LevelStep of levels for which a kind is not possible, whether the condition holds or not.
func wantNoStep(t *testing.T, list []impl.Level, kinds ...int) {
	t.Helper()
	for _, kind := range kinds {
		for _, holds := range []bool{false, true} {
			if got, ok := impl.LevelStep(list, kind, holds); ok || len(got) > 0 {
				t.Errorf("LevelStep(%s, %d, %v) = %s, %v, want nothing and false", wordsOf(list), kind, holds, wordsOf(got), ok)
			}
		}
	}
}

// wantSteps checks LevelStep of levels for some kinds.
func wantSteps(t *testing.T, before string, kinds []int, holds bool, after string) {
	t.Helper()
	for _, kind := range kinds {
		wantStep(t, levelsOf(before), kind, holds, levelsOf(after))
	}
}

// partStates has the state that follows each of the four that are not Other: for KindElif if the condition is to be looked at and holds, and if not, and for KindElse if all others are taken, and if not.
var partStates = [4][4]int{{3, 3, 2, 2}, {0, 0, 2, 2}, {7, 7, 6, 6}, {6, 6, 6, 6}}

// stepAnotherWay returns the levels after a directive in another way: by their states.
func stepAnotherWay(list []impl.Level, kind int, holds bool) ([]impl.Level, bool) {
	var states []int
	for _, level := range list {
		states = append(states, stateOf(level))
	}
	if len(states) > impl.MaxLevels || kind <= impl.KindNone || kind > impl.KindError {
		return nil, false
	}
	last := len(states) - 1
	switch {
	case slices.Contains(beginKinds, kind):
		if len(states) == impl.MaxLevels {
			return nil, false
		}
		states = append(states, 3*oneOf(holds && !hasOpenState(states)))
	case kind == impl.KindEndif && last >= 0:
		states = states[:last]
	case slices.Contains(idleKinds, kind):
	case last < 0 || states[last] > 3:
		return nil, false
	default:
		open := !hasOpenState(states[:last])
		row := 2 + oneOf(!open)
		if kind == impl.KindElif {
			row = oneOf(!open || !holds)
		}
		states[last] = partStates[row][states[last]]
	}
	var after []impl.Level
	for _, state := range states {
		after = append(after, levelsOf(levelWords[state])...)
	}
	return after, true
}

// hasOpenState tells whether one of some states is that of a level that is not taken.
func hasOpenState(states []int) bool {
	return slices.ContainsFunc(states, func(state int) bool { return state%2 == 0 })
}

// checkStep compares LevelStep with the other way, and returns its results.
func checkStep(t *testing.T, list []impl.Level, kind int, holds bool) ([]impl.Level, bool) {
	t.Helper()
	want, wantOK := stepAnotherWay(list, kind, holds)
	got, ok := impl.LevelStep(list, kind, holds)
	if ok != wantOK || !slices.Equal(got, want) || len(got) > impl.MaxLevels {
		t.Fatalf("LevelStep(%s, %d, %v) = %s, %v, want %s, %v", wordsOf(list), kind, holds, wordsOf(got), ok, wordsOf(want), wantOK)
	}
	return got, ok
}

// checkEnds checks what promise 11 says of levels: a level begins and ends, and a second KindElse is refused.
func checkEnds(t *testing.T, list []impl.Level) {
	t.Helper()
	for _, kind := range beginKinds {
		for _, holds := range []bool{false, true} {
			inner, ok := impl.LevelStep(list, kind, holds)
			if ok != (len(list) < impl.MaxLevels) {
				t.Fatalf("LevelStep(%s, %d, %v) = %s, %v", wordsOf(list), kind, holds, wordsOf(inner), ok)
			}
			if !ok {
				continue
			}
			wantStep(t, inner, impl.KindEndif, holds, list)
			other, ok := impl.LevelStep(inner, impl.KindElse, holds)
			if !ok {
				t.Fatalf("LevelStep(%s, KindElse, %v) = %s, %v", wordsOf(inner), holds, wordsOf(other), ok)
			}
			wantNoStep(t, other, impl.KindElse, impl.KindElif)
			wantStep(t, other, impl.KindEndif, holds, list)
		}
	}
}

// allLevels returns all lists of at most as many levels.
func allLevels(most int) [][]impl.Level {
	var lists [][]impl.Level
	for _, words := range listsOf(levelWords, most) {
		lists = append(lists, levelsOf(strings.Join(words, " ")))
	}
	return lists
}

func TestConstantsOfLevels(t *testing.T) {
	if impl.MaxLevels != 8 {
		t.Errorf("MaxLevels is %d", impl.MaxLevels)
	}
}

// Promise 71: all levels are taken, or one is not, wherever it is; Done and Other do not matter.
func TestLevelsActiveOrdinary(t *testing.T) {
	for _, words := range []string{"", "t", "td", "te", "tde", "t t", "td td", "td t tde te", "t t t t t t t t", "td td td td td td td tde"} {
		wantActive(t, levelsOf(words), true)
	}
	for _, words := range []string{".", "d", "e", "de", ". t", "t .", "d td", "td d", "td e td", "tde de", "t t t t t t t d", ". td td td td td td td", "td td td de td td td td", ". .", "d e de"} {
		wantActive(t, levelsOf(words), false)
	}
	wantActive(t, nil, true)
	wantActive(t, []impl.Level{}, true)
}

// Promise 71: with one level that is not taken none is active, and a part of active ones is active, also of more than MaxLevels.
func TestLevelsActiveTogether(t *testing.T) {
	for count := range 2*impl.MaxLevels + 3 {
		for _, word := range []string{"t", "td", "te", "tde"} {
			list := manyLevels(word, count)
			wantActive(t, list, true)
			for from := range count {
				for to := from; to <= count; to++ {
					wantActive(t, list[from:to], true)
				}
			}
			for _, closed := range []string{".", "d", "e", "de"} {
				for at := range count + 1 {
					with := slices.Insert(slices.Clone(list), at, levelsOf(closed)...)
					wantActive(t, with, false)
					wantActive(t, with[:at], true)
					wantActive(t, with[at+1:], true)
				}
			}
		}
	}
}

// Promise 71: all short lists of levels.
func TestLevelsActiveShortLists(t *testing.T) {
	active := make([]int, 2)
	for _, list := range allLevels(4) {
		want := true
		for _, level := range list {
			want = want && level.Taken
		}
		wantActive(t, list, want)
		active[oneOf(want)]++
		for at := range list {
			if want {
				wantActive(t, list[at:], true)
				wantActive(t, list[:at], true)
			}
		}
	}
	if active[1] != 1+4+16+64+256 {
		t.Errorf("levels are active as often as %v", active)
	}
}

// KindIf, KindIfdef and KindIfndef put a level behind all others.
func TestLevelStepBegins(t *testing.T) {
	for _, before := range []string{"", "t", "td", "te", "tde", "td td", "tde t te", "td td td td td td td"} {
		wantSteps(t, before, beginKinds, true, before+" td")
		wantSteps(t, before, beginKinds, false, before+" .")
	}
	// A level within one that is not taken is not taken, and not Done, whatever its condition.
	for _, before := range []string{".", "d", "e", "de", ". td", "td .", "td d", "td de td", "td td td td td td .", "de td td td td td td", ". . . . . . ."} {
		wantSteps(t, before, beginKinds, true, before+" .")
		wantSteps(t, before, beginKinds, false, before+" .")
	}
}

// KindElif takes the last level if it is not Done, all others are taken, and the condition holds.
func TestLevelStepElif(t *testing.T) {
	elif := []int{impl.KindElif}
	for _, others := range []string{"", "t ", "td ", "te ", "tde ", "td tde ", "td td td td td td td "} {
		wantSteps(t, others+".", elif, true, others+"td")
		wantSteps(t, others+".", elif, false, others+".")
		// Behind a part that was taken no other is.
		for _, holds := range []bool{false, true} {
			wantSteps(t, others+"td", elif, holds, others+"d")
			wantSteps(t, others+"d", elif, holds, others+"d")
		}
		// A level that is taken and not Done is none that a step leads to, but it is one.
		wantSteps(t, others+"t", elif, true, others+"td")
		wantSteps(t, others+"t", elif, false, others+".")
	}
	// With another one that is not taken it is not taken, and does not become Done.
	for _, others := range []string{". ", "d ", "e ", "de ", ". td ", "td . ", "td td td td td td de ", "d td td td td td td "} {
		for _, holds := range []bool{false, true} {
			wantSteps(t, others+".", elif, holds, others+".")
			wantSteps(t, others+"t", elif, holds, others+".")
			wantSteps(t, others+"d", elif, holds, others+"d")
			wantSteps(t, others+"td", elif, holds, others+"d")
		}
	}
}

// KindElse takes the last level if it is not Done and all others are taken, and the condition does not matter.
func TestLevelStepElse(t *testing.T) {
	other := []int{impl.KindElse}
	for _, holds := range []bool{false, true} {
		for _, others := range []string{"", "t ", "td ", "te ", "tde ", "td tde ", "td td td td td td td "} {
			wantSteps(t, others+".", other, holds, others+"tde")
			wantSteps(t, others+"t", other, holds, others+"tde")
			wantSteps(t, others+"d", other, holds, others+"de")
			wantSteps(t, others+"td", other, holds, others+"de")
		}
		// It is Done and Other in any case.
		for _, others := range []string{". ", "d ", "e ", "de ", ". td ", "td . ", "td td td td td td de ", "d td td td td td td "} {
			for _, last := range []string{".", "t", "d", "td"} {
				wantSteps(t, others+last, other, holds, others+"de")
			}
		}
	}
}

// KindEndif takes the last level away, whatever it is, and the others stay.
func TestLevelStepEndif(t *testing.T) {
	for _, others := range []string{"", "t", ".", "de", "td td", "tde . e", "td td td td td td td", ". d e t td te de"} {
		for _, last := range levelWords {
			wantSteps(t, others+" "+last, []int{impl.KindEndif}, false, others)
			wantSteps(t, others+" "+last, []int{impl.KindEndif}, true, others)
		}
	}
}

// Promise 11: branches that come too late are refused: KindElif and KindElse behind a KindElse, taken or not, at any depth.
func TestLevelStepTooLate(t *testing.T) {
	for _, others := range []string{"", "td", ".", "de", "tde", "e", "td tde .", "td td td td td td td", ". . . . . . ."} {
		for _, last := range []string{"e", "te", "de", "tde"} {
			list := levelsOf(others + " " + last)
			wantNoStep(t, list, impl.KindElif, impl.KindElse)
			wantStep(t, list, impl.KindEndif, true, levelsOf(others))
		}
		// Only the last level counts: another one that is Other does not matter.
		if len(levelsOf(others)) < impl.MaxLevels-1 {
			wantSteps(t, others+" tde .", []int{impl.KindElif}, false, others+" tde .")
			wantSteps(t, others+" de .", []int{impl.KindElse}, true, others+" de de")
		}
	}
	// A level that begins behind a KindElse may have its own, and after it is ended the outer one is still too late.
	list := wantStep(t, levelsOf("td ."), impl.KindElse, false, levelsOf("td tde"))
	list = wantStep(t, list, impl.KindIfdef, true, levelsOf("td tde td"))
	list = wantStep(t, list, impl.KindElse, true, levelsOf("td tde de"))
	wantNoStep(t, list, impl.KindElif, impl.KindElse)
	list = wantStep(t, list, impl.KindEndif, true, levelsOf("td tde"))
	wantNoStep(t, list, impl.KindElif, impl.KindElse)
	list = wantStep(t, list, impl.KindEndif, false, levelsOf("td"))
	wantStep(t, list, impl.KindElse, false, levelsOf("de"))
}

// KindElif, KindElse and KindEndif need a level.
func TestLevelStepWithoutLevel(t *testing.T) {
	for _, list := range [][]impl.Level{nil, {}, manyLevels("td", 3)[:0]} {
		wantNoStep(t, list, impl.KindElif, impl.KindElse, impl.KindEndif)
		wantStep(t, list, impl.KindIf, true, levelsOf("td"))
	}
	// What was ended cannot end again.
	for count := range impl.MaxLevels + 1 {
		list := manyLevels("td", count)
		for range count {
			list, _ = impl.LevelStep(list, impl.KindEndif, false)
		}
		wantNoStep(t, list, impl.KindEndif, impl.KindElse, impl.KindElif)
	}
}

// MaxLevels levels, and one more.
func TestLevelStepManyLevels(t *testing.T) {
	var list []impl.Level
	for count := range impl.MaxLevels {
		list = wantStep(t, list, beginKinds[count%3], true, manyLevels("td", count+1))
	}
	wantNoStep(t, list, beginKinds...)
	wantActive(t, list, true)
	for _, word := range levelWords {
		full := manyLevels(word, impl.MaxLevels)
		wantNoStep(t, full, beginKinds...)
		wantStep(t, full, impl.KindEndif, false, full[1:])
		for _, kind := range idleKinds {
			wantStep(t, full, kind, true, full)
		}
		// More levels are invalid for every kind, those that put none behind them, too.
		for _, more := range []int{1, 2, impl.MaxLevels, 100} {
			for kind := -2; kind <= impl.KindError+2; kind++ {
				wantNoStep(t, append(slices.Clone(full), manyLevels("td", more)...), kind)
				wantNoStep(t, append(manyLevels(".", more), full...), kind)
			}
		}
	}
	full := manyLevels("td", impl.MaxLevels)
	wantStep(t, full, impl.KindElif, true, append(manyLevels("td", impl.MaxLevels-1), levelsOf("d")...))
	wantStep(t, full, impl.KindElse, true, append(manyLevels("td", impl.MaxLevels-1), levelsOf("de")...))
}

// Kinds that are not named change nothing, and those that are none are invalid, also KindNone.
func TestLevelStepOtherKinds(t *testing.T) {
	for _, list := range append(allLevels(3), manyLevels("td", 8), manyLevels(".", 8), manyLevels("tde", 7), levelsOf("t d e td te de tde .")) {
		for _, kind := range idleKinds {
			wantStep(t, list, kind, false, list)
			wantStep(t, list, kind, true, list)
		}
		wantNoStep(t, list, noKinds...)
	}
	for kind := impl.KindError + 1; kind < 300; kind++ {
		wantNoStep(t, nil, kind, -kind)
		wantNoStep(t, levelsOf("td ."), kind, -kind)
	}
}

// Promise 11: after a level has begun and ended the levels are as before, and KindElse twice is refused.
func TestLevelStepBeginsAndEnds(t *testing.T) {
	for _, list := range allLevels(4) {
		checkEnds(t, list)
	}
	for count := range impl.MaxLevels + 1 {
		for at := range count {
			for _, word := range levelWords {
				for _, all := range []string{"td", "t", ".", "de"} {
					list := manyLevels(all, count)
					list[at] = levelsOf(word)[0]
					checkEnds(t, list)
				}
			}
		}
	}
}

// Promise 11: of a level with KindElse exactly one branch is taken, the first one whose condition holds, if all others are taken, and else none.
func TestLevelStepOneBranch(t *testing.T) {
	for _, others := range []string{"", "td", "t", "tde", "te td", "td td td td td td td", ".", "d", "de", "td .", ". td", "td de td", "td td td td td td d"} {
		for branches := 1; branches <= 7; branches++ {
			for conditions := range 1 << branches {
				checkBranches(t, levelsOf(others), branches, conditions)
			}
		}
	}
}

// checkBranches checks which branch of a level is taken in others, where the condition of a branch holds if its bit is set, and behind all others is the one of KindElse.
func checkBranches(t *testing.T, others []impl.Level, branches int, conditions int) {
	t.Helper()
	first := branches
	for branch := branches - 1; branch >= 0; branch-- {
		if conditions>>branch%2 == 1 {
			first = branch
		}
	}
	list := others
	for branch := range branches + 1 {
		kind := impl.KindElif
		if branch == 0 {
			kind = beginKinds[conditions%3]
		} else if branch == branches {
			kind = impl.KindElse
		}
		next, ok := impl.LevelStep(list, kind, conditions>>branch%2 == 1)
		if !ok || len(next) != len(others)+1 || !slices.Equal(next[:len(others)], others) {
			t.Fatalf("LevelStep(%s, %d, %v) = %s, %v", wordsOf(list), kind, conditions>>branch%2 == 1, wordsOf(next), ok)
		}
		wantActive(t, next, impl.LevelsActive(others) && branch == first)
		list = next
	}
	wantStep(t, list, impl.KindEndif, false, others)
}

// Promise 11: all short lists of levels, for all kinds.
func TestLevelStepShortLists(t *testing.T) {
	results := make([]int, 2)
	for _, list := range allLevels(4) {
		for kind := -3; kind <= impl.KindError+3; kind++ {
			for _, holds := range []bool{false, true} {
				_, ok := checkStep(t, list, kind, holds)
				results[oneOf(ok)]++
			}
		}
	}
	if slices.Min(results) < 20000 {
		t.Errorf("steps are possible as often as %v", results)
	}
}

// Promise 11: longer lists of levels that are chosen in a fixed order.
func TestLevelStepAnotherWay(t *testing.T) {
	c := choices{seed: 9}
	results := make([]int, 2)
	for range 40000 {
		var list []impl.Level
		for range c.below(impl.MaxLevels + 2) {
			word := "td"
			if c.below(4) == 0 {
				word = levelWords[c.below(len(levelWords))]
			}
			list = append(list, levelsOf(word)...)
		}
		_, ok := checkStep(t, list, c.below(impl.KindError+3)-1, c.below(2) == 0)
		results[oneOf(ok)]++
	}
	if slices.Min(results) < 5000 {
		t.Errorf("steps are possible as often as %v", results)
	}
}

// branchGroup is a level of conditions as it is told in other words: the conditions of all its parts so far, and whether the last one is that of else.
type branchGroup struct {
	conditions []bool
	ended      bool
}

// groupsTaken tells for groups within each other whether each is in the first part whose condition holds, and all before it are, too.
func groupsTaken(groups []branchGroup) bool {
	for _, group := range groups {
		if slices.Index(group.conditions, true) != len(group.conditions)-1 {
			return false
		}
	}
	return true
}

// groupsAfter returns groups after a directive, and whether it is possible.
func groupsAfter(groups []branchGroup, kind int, holds bool) ([]branchGroup, bool) {
	last := len(groups) - 1
	switch kind {
	case impl.KindIf, impl.KindIfdef, impl.KindIfndef:
		return append(slices.Clone(groups), branchGroup{conditions: []bool{holds}}), last+1 < impl.MaxLevels
	case impl.KindElif, impl.KindElse:
		if last < 0 || groups[last].ended {
			return groups, false
		}
		isElse := kind == impl.KindElse
		conditions := append(slices.Clone(groups[last].conditions), isElse || holds)
		return append(slices.Clone(groups[:last]), branchGroup{conditions: conditions, ended: isElse}), true
	case impl.KindEndif:
		return groups[:max(last, 0)], last >= 0
	}
	return groups, true
}

// checkDirectives does directives of some kinds, whose conditions hold or not, one after the other, and compares which ones are possible and taken with the groups.
func checkDirectives(t *testing.T, kinds []int, conditions int) {
	t.Helper()
	var list []impl.Level
	var groups []branchGroup
	for i, kind := range kinds {
		holds := conditions>>i%2 == 1
		after, possible := groupsAfter(groups, kind, holds)
		next, ok := impl.LevelStep(list, kind, holds)
		if ok != possible {
			t.Fatalf("after the kinds %v and the conditions %b, LevelStep(%s, %d, %v) = %s, %v", kinds[:i], conditions, wordsOf(list), kind, holds, wordsOf(next), ok)
		}
		if !ok {
			continue
		}
		list, groups = next, after
		if len(list) != len(groups) || impl.LevelsActive(list) != groupsTaken(groups) {
			t.Fatalf("after the kinds %v and the conditions %b the levels are %s, and the groups are %v", kinds[:i+1], conditions, wordsOf(list), groups)
		}
	}
}

// Promises 11 and 71: all short lists of directives, from no levels on.
func TestLevelStepOfDirectives(t *testing.T) {
	words := []string{"if", "elif", "else", "endif"}
	for _, list := range listsOf(words, 6) {
		var kinds []int
		for _, word := range list {
			kinds = append(kinds, slices.Index(kindWords, word)+impl.KindDefine)
		}
		for conditions := range 1 << len(kinds) {
			checkDirectives(t, kinds, conditions)
		}
	}
}

// Promises 11 and 71: long lists of directives that are chosen in a fixed order, where levels are often deep.
func TestLevelStepOfManyDirectives(t *testing.T) {
	c := choices{seed: 10}
	often := append(slices.Clone(beginKinds), impl.KindElif, impl.KindElif, impl.KindElse)
	for range 5000 {
		var kinds []int
		conditions := 0
		for i := range 50 {
			if c.below(3) == 0 {
				kinds = append(kinds, impl.KindDefine+c.below(impl.KindError))
			} else {
				kinds = append(kinds, often[c.below(len(often))])
			}
			// Most conditions hold, so that inner levels are taken, too.
			conditions |= oneOf(c.below(4) > 0) << i
		}
		checkDirectives(t, kinds, conditions)
	}
}

// roomyLevels returns levels with spare capacity, which has levels, too.
func roomyLevels(words string) []impl.Level {
	list := append(levelsOf(words), manyLevels("te", impl.MaxLevels)...)
	return list[:len(levelsOf(words))]
}

// changeWholeLevels changes all levels, those in the spare capacity, too.
func changeWholeLevels(list []impl.Level) {
	list = list[:cap(list)]
	for i, level := range list {
		list[i] = impl.Level{Taken: !level.Taken, Done: !level.Done, Other: !level.Other}
	}
}

// The general rules: levels keep what they hold, a result shares no memory with them, and no state is kept.
func TestLevelsKeepArguments(t *testing.T) {
	for _, words := range []string{"", ".", "td", "d", "de", "tde", "td .", "td td td", "td de .", "td td td td td td td", "td td td td td td td .", ". . . . . . . . ."} {
		for kind := -1; kind <= impl.KindError+1; kind++ {
			for _, holds := range []bool{false, true} {
				list := roomyLevels(words)
				whole := slices.Clone(list[:cap(list)])
				active := impl.LevelsActive(list)
				first, ok := impl.LevelStep(list, kind, holds)
				want := slices.Clone(first)
				changeWholeLevels(first)
				if !slices.Equal(list[:cap(list)], whole) {
					t.Fatalf("after LevelStep(%s, %d, %v) the levels are %s", words, kind, holds, wordsOf(list[:cap(list)]))
				}
				wantStep(t, levelsOf("d td"), impl.KindElse, true, levelsOf("d de"))
				second, again := impl.LevelStep(list, kind, holds)
				wantActive(t, list, active)
				changeWholeLevels(list)
				if again != ok || !slices.Equal(second, want) {
					t.Fatalf("LevelStep(%s, %d, %v) is %s, %v, and was %s, %v before", words, kind, holds, wordsOf(second), again, wordsOf(want), ok)
				}
			}
		}
	}
}
