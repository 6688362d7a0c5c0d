package atom

import "broadsheet/api"

// A rule is what the kids of one name must be, and how many there may be of them.
type rule struct {
	fits     func(api.Node) bool
	isSingle bool // there is at most one
	isNeeded bool // there is at least one
}

// entryRules are the rules for an entry's kids, by their names.
func entryRules(stored bool) map[string]rule {
	return map[string]rule{
		"author":      {fits: isPerson, isNeeded: true},
		"category":    {fits: isCategory},
		"content":     {fits: isContent, isSingle: true},
		"contributor": {fits: isPerson},
		"id":          {fits: isID, isSingle: true, isNeeded: stored},
		"link":        {fits: isLink},
		"published":   {fits: isTime, isSingle: true},
		"rights":      {fits: isTextConstruct, isSingle: true},
		"summary":     {fits: isTextConstruct, isSingle: true},
		"title":       {fits: isTextConstruct, isSingle: true, isNeeded: true},
		"updated":     {fits: isTime, isSingle: true, isNeeded: stored},
	}
}

// personRules are the rules for a person's kids, by their names.
func personRules() map[string]rule {
	return map[string]rule{
		"email": {fits: isEmail, isSingle: true},
		"name":  {fits: isName, isSingle: true, isNeeded: true},
		"uri":   {fits: isURI, isSingle: true},
	}
}

// areFit tells whether kids are as the rules ask. Of names without a rule they may be anything.
func areFit(kids []api.Node, rules map[string]rule) bool {
	count := map[string]int{}
	for _, kid := range kids {
		if kid.Kind != api.Elem || kid.Space != atomSpace {
			continue
		}
		if r, has := rules[kid.Name]; has && !r.fits(kid) {
			return false
		}
		count[kid.Name]++
	}
	for name, r := range rules {
		if r.isSingle && count[name] > 1 || r.isNeeded && count[name] == 0 {
			return false
		}
	}
	return true
}
