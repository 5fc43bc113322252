package request

import "freehold/api"

// The keys of the maps of requests and answers.
const (
	keyAfter     = "after"
	keyBody      = "body"
	keyClass     = "class"
	keyConflicts = "conflicts"
	keyContinue  = "continue"
	keyEvent     = "event"
	keyEvents    = "events"
	keyFloor     = "floor"
	keyForce     = "force"
	keyItems     = "items"
	keyKey       = "key"
	keyKind      = "kind"
	keyLimit     = "limit"
	keyManager   = "manager"
	keyName      = "name"
	keyNext      = "next"
	keyOp        = "op"
	keyOwners    = "owners"
	keyRevision  = "revision"
	keySelector  = "selector"
	keyValue     = "value"
	keyWhere     = "where"
)

// What a request can have beside its op.
const (
	asksAfter = 1 << iota
	asksBody
	asksContinue
	asksForce
	asksKind
	asksLimit
	asksManager
	asksName
	asksRevision
	asksSelector
)

// What goes together: an object that is asked for, and what somebody writes of one.
const (
	asksObject = asksKind | asksName
	asksWrite  = asksObject | asksManager | asksBody
)

// ops holds, by an op's number, its word, what its requests must have, and what they may have besides.
var ops = [...]struct {
	word      string
	must, may int
}{
	api.OpGet:       {"get", asksObject, 0},
	api.OpList:      {"list", asksKind, asksSelector | asksLimit | asksContinue},
	api.OpEvents:    {"events", asksAfter, asksKind | asksLimit},
	api.OpCreate:    {"create", asksWrite, 0},
	api.OpApply:     {"apply", asksWrite, asksForce | asksRevision},
	api.OpUpdate:    {"update", asksWrite, asksRevision},
	api.OpMerge:     {"merge", asksWrite, asksRevision},
	api.OpSteps:     {"steps", asksWrite, asksRevision},
	api.OpStrategic: {"strategic", asksWrite, asksRevision},
	api.OpDelete:    {"delete", asksObject, asksRevision},
}

// What an answer can have beside its class.
const (
	hasConflicts = 1 << iota
	hasEvents
	hasFloor
	hasItems
	hasNext
	hasOwners
	hasRevision
	hasValue
	hasWhere
)

// classes holds, by a class's number, its word.
var classes = [...]string{
	api.ClassOK:         "ok",
	api.ClassMalformed:  "malformed",
	api.ClassOverlimit:  "overlimit",
	api.ClassBadRequest: "badrequest",
	api.ClassViolation:  "violation",
	api.ClassUnfit:      "unfit",
	api.ClassNotFound:   "notfound",
	api.ClassExists:     "exists",
	api.ClassStale:      "stale",
	api.ClassConflict:   "conflict",
	api.ClassExpired:    "expired",
	api.ClassExhausted:  "exhausted",
}

// answers holds, by class and op, what there are for answers and what they have. Of one class no two have the same.
var answers = [...]struct{ class, op, has int }{
	{api.ClassOK, api.OpGet, hasOwners | hasRevision | hasValue},
	{api.ClassOK, api.OpDelete, hasRevision},
	{api.ClassOK, api.OpList, hasItems | hasNext | hasRevision},
	{api.ClassOK, api.OpEvents, hasEvents | hasFloor | hasRevision},
	{api.ClassMalformed, 0, 0},
	{api.ClassOverlimit, 0, 0},
	{api.ClassBadRequest, 0, 0},
	{api.ClassViolation, 0, hasWhere},
	{api.ClassUnfit, 0, 0},
	{api.ClassNotFound, 0, 0},
	{api.ClassExists, 0, 0},
	{api.ClassStale, 0, hasRevision},
	{api.ClassConflict, 0, hasConflicts | hasRevision},
	{api.ClassExpired, 0, 0},
	{api.ClassExhausted, 0, 0},
}

// happenings holds, by the number of an event's kind, its word.
var happenings = [...]string{
	api.Created: "created",
	api.Swapped: "swapped",
	api.Removed: "removed",
}

// opWord, classWord and happeningWord tell the words of numbers; of a number that has none the empty text.

func opWord(n int) string {
	if n < 0 || n >= len(ops) {
		return ""
	}
	return ops[n].word
}

func classWord(n int) string {
	if n < 0 || n >= len(classes) {
		return ""
	}
	return classes[n]
}

func happeningWord(n int) string {
	if n < 0 || n >= len(happenings) {
		return ""
	}
	return happenings[n]
}

// numbered is the number that has a word; 0, if none has it.
func numbered(word string, wordOf func(n int) string) int {
	for n := 1; wordOf(n) != ""; n++ {
		if wordOf(n) == word {
			return n
		}
	}
	return 0
}

// hasOf is what an answer of a class and an op has; false, if there are no such answers.
func hasOf(class, op int) (int, bool) {
	for _, a := range answers {
		if a.class == class && a.op == op {
			return a.has, true
		}
	}
	return 0, false
}

// opThatHas is the op of the answers of a class that have just this; 0, if there are no such answers.
func opThatHas(class, has int) int {
	for _, a := range answers {
		if a.class == class && a.has == has {
			return a.op
		}
	}
	return 0
}
