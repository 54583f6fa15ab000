package heaptest

import "slices"

// Test is one that heaps of every kind must pass.
type Test struct {
	Name string
	Run  func(t T, k Kind)
}

// Tests are all of them.
func Tests() []Test {
	return slices.Concat(ofCalls(), ofGreat(), ofOdd())
}

func ofCalls() []Test {
	return []Test{
		{"None", none}, {"One", one}, {"Push", push}, {"PushOfAllOrders", pushOfAllOrders},
		{"PushWithoutACell", pushWithoutACell}, {"PushAgain", pushAgain}, {"ItemsThatAreTheSame", itemsThatAreTheSame},
		{"Serials", serials}, {"Min", least}, {"Pop", pop}, {"FallOfAllOrders", fallOfAllOrders}, {"Fall", fall},
		{"FallOfTheLeast", fallOfTheLeast}, {"CutOfAllOrders", cutOfAllOrders}, {"Cut", cut},
		{"CutOfTheLeast", cutOfTheLeast}, {"Meld", meld}, {"MeldOfManyHeaps", meldOfManyHeaps}, {"All", all},
		{"Drop", drop}, {"ArenasStandByThemselves", arenasStandByThemselves}, {"StepsAreCounted", stepsAreCounted},
		{"AgainstPlainSets", againstPlainSets},
	}
}

func ofGreat() []Test {
	return []Test{{"GreatHeaps", greatHeaps}, {"MeldOfGreatHeaps", meldOfGreatHeaps}, {"AllCells", allCells}}
}

func ofOdd() []Test {
	return []Test{
		{"NilArena", nilArena}, {"NoCells", noCells}, {"AnyInt", anyInt}, {"AnyCell", anyCell},
		{"RootsThatAreOver", rootsThatAreOver}, {"CellsThatAreNoRoot", cellsThatAreNoRoot}, {"OneTwice", oneTwice},
		{"PushToTheCellThatIsTaken", pushToTheCellThatIsTaken}, {"LinksThatLeadRound", linksThatLeadRound},
		{"BrokenHeaps", brokenHeaps}, {"CellsOfAnything", cellsOfAnything},
	}
}
