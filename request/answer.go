package request

import (
	"math"

	"freehold/api"
)

// partsOf lists what the map of an answer can have, by the keys, rising, over the fields of an answer.
func partsOf(a *api.Answer) []part {
	return []part{
		word(keyClass, 0, &a.Class, classWord),
		collisions(keyConflicts, hasConflicts, &a.Conflicts),
		row(keyEvents, hasEvents, &a.Events, partsOfSeen),
		revision(keyFloor, hasFloor, &a.Floor),
		row(keyItems, hasItems, &a.Items, partsOfFound),
		line(keyNext, hasNext, &a.Next, math.MaxInt),
		owners(keyOwners, hasOwners, &a.Object.Entries),
		revision(keyRevision, hasRevision, &a.Rev),
		held(keyValue, hasValue, &a.Object.Value),
		line(keyWhere, hasWhere, &a.Where, api.MaxWhere),
	}
}

func partsOfFound(x *api.Found) []part {
	return []part{
		line(keyName, 0, &x.Name, math.MaxInt),
		owners(keyOwners, 0, &x.Object.Entries),
		revision(keyRevision, 0, &x.Rev),
		held(keyValue, 0, &x.Object.Value),
	}
}

func partsOfSeen(x *api.Seen) []part {
	return []part{
		word(keyEvent, 0, &x.Kind, happeningWord),
		line(keyKey, 0, &x.Name, math.MaxInt),
		owners(keyOwners, 0, &x.Object.Entries),
		revision(keyRevision, 0, &x.Rev),
		held(keyValue, 0, &x.Object.Value),
	}
}
